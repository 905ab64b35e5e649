package vault

import (
	"fmt"
	"math/rand"
	"slices"
	"strings"
	"testing"

	"satchel/api"
)

func TestOpen(t *testing.T) { // P13.6
	for _, file := range []string{"", "x", strings.Repeat("\xa7", 100), recs(base()...)[:50]} {
		v, d := over(t, file)
		if v.Number() != 0 || len(v.Ids())+len(v.Refs())+len(v.Notes()) != 0 || d.Strokes() != 0 {
			t.Errorf("over %q: %s", file, seen(v))
		}
		sound(t, "an empty one", v)
		does(t, v, txn(blob))
		holds(t, "and on", opened(t, d), seen(v))
	}
	v, _ := made(t)
	does(t, v, txn(blob, tree, blobOf("lone"), ref("a", none, x), ref("b", none, y), note("k", "v")))
	one := seen(v)
	does(t, v, txn(ref("a", x, y), note("l", "w")))
	two := seen(v)
	file := recs(base()...)
	first := len(rec(1, base()[0]))
	for cut := range len(file) + 1 { // every cut
		v, d := over(t, file[:cut])
		want := two
		if cut < len(file) {
			want = one
		}
		if cut < first {
			want = seen(opened(t, loaded(t, room, nil)))
		}
		holds(t, fmt.Sprintf("cut to %d", cut), v, want)
		if d.Strokes() != 0 || onDisk(t, d) != file[:cut] {
			t.Errorf("cut to %d: Open writes", cut)
		}
	}
	for bit := range 8 * len(file) { // every bit turned
		b := []byte(file)
		b[bit/8] ^= 1 << (bit % 8)
		want := one
		if bit/8 < first {
			want = seen(opened(t, loaded(t, room, nil)))
		}
		v, _ := over(t, string(b))
		holds(t, fmt.Sprintf("bit %d turned", bit), v, want)
	}
}

func TestOpenAtAnyNumber(t *testing.T) { // P13.6: the journal's numbers are its own business
	v, _ := over(t, recs(base()...))
	for _, n := range []uint64{1, 2, 77, api.MaxSeq - 1} {
		w, _ := over(t, rec(n, base()[0])+rec(n+1, base()[1]))
		holds(t, fmt.Sprintf("from %d on", n), w, seen(v))
	}
}

// moved tells the lines of a log that goes to and fro between x and y, with the numbers from first on.
func moved(first uint64, lines int) []string {
	var list []string
	for i := range lines {
		list = append(list, lineText(first+uint64(i), []api.ID{x, y}[i%2]))
	}
	return list
}

// both tells a whole state with blob and tree, of that number.
func both(number uint64, logs ...string) string {
	return wholeText(number, objectsText(blob, tree), listOf(logs...), listOf())
}

func TestRightWholes(t *testing.T) { // P13.6: what must be taken, beside what must not
	nothing := listOf()
	for name, text := range map[string]string{
		"nothing":               wholeText(0, nothing, nothing, nothing),
		"nothing, at the end":   wholeText(api.MaxSeq, nothing, nothing, nothing),
		"objects":               both(1),
		"all at the end":        both(api.MaxSeq, logText("a", none, lineText(api.MaxSeq, x))),
		"a full log":            both(64, logText("a", none, moved(1, 64)...)),
		"a full log, later":     both(99, logText("a", none, moved(36, 64)...)),
		"a log that lost lines": both(65, logText("a", y, moved(2, 64)...)),
		"a log to what is gone": wholeText(7, objectsText(blob), listOf(logText("a", none, lineText(2, y), lineText(3, api.ID{1}), lineText(7, x))), nothing),
		"a great note":          wholeText(1, nothing, nothing, listOf(noteText("k", strings.Repeat("v", api.MaxNote)))),
		"long names":            wholeText(1, objectsText(blob), listOf(logText(strings.Repeat("r", api.MaxName), none, lineText(1, x))), listOf(noteText(strings.Repeat("n", api.MaxName), "v"))),
		"the most notes":        wholeText(1, nothing, nothing, listOf(manyNotes(api.MaxNotes)...)),
		"the most refs":         wholeText(1, objectsText(blob), listOf(manyRefs(api.MaxRefs)...), nothing),
		"the most objects":      wholeText(1, objectsText(numbered(api.MaxStore)...), nothing, nothing),
		"the most weight":       wholeText(1, nothing, nothing, listOf(heavyNotes(api.MaxKept)...)),
	} {
		v, d := over(t, rec(3, text))
		sound(t, name, v)
		if name == "nothing" {
			continue
		}
		answers(t, name, v.Compact(), api.OK)
		if onDisk(t, d) != rec(4, text) {
			t.Errorf("%s: compacted, it is another one", name)
		}
	}
}

func manyRefs(n int) []string {
	var list []string
	for i := range n {
		list = append(list, logText(fmt.Sprintf("r%04d", i), none, lineText(1, x)))
	}
	return list
}

// heavyNotes tells the texts of notes that weigh so much.
func heavyNotes(weight int) []string {
	var list []string
	for i := 0; weight > 0; i++ {
		size := min(weight-65, api.MaxNote)
		list = append(list, noteText(fmt.Sprint(i), strings.Repeat("v", size)))
		weight -= size + 65
	}
	return list
}

func TestBrokenWholes(t *testing.T) { // P13.6
	nothing := listOf()
	gone := api.ID{1}
	line := lineText(1, x)
	c := commitOf(y, "c")
	for name, text := range map[string]string{
		"number 0 with an object":     wholeText(0, objectsText(blob), nothing, nothing),
		"number 0 with a note":        wholeText(0, nothing, nothing, listOf(noteText("k", "v"))),
		"a number past the end":       wholeText(api.MaxSeq+1, nothing, nothing, nothing),
		"a number in a long form":     "\x02\x81\x00" + nothing + nothing + nothing,
		"no object":                   wholeText(1, objectsText("\x09"), nothing, nothing),
		"an empty object":             wholeText(1, objectsText(""), nothing, nothing),
		"an object that is too long":  wholeText(1, objectsText(strings.Repeat("\x01", api.MaxObject+1)), nothing, nothing),
		"an object twice":             wholeText(1, objectsText(blob, blob), nothing, nothing),
		"objects out of order":        wholeText(1, reversed(blob, tree), nothing, nothing),
		"a child is missing":          wholeText(1, objectsText(tree), nothing, nothing),
		"a child of a wrong kind":     wholeText(1, objectsText(odd, blob), nothing, nothing),
		"a commit of a missing one":   wholeText(1, objectsText(c, blob), nothing, nothing),
		"a ref's object is missing":   wholeText(1, objectsText(blob), listOf(logText("a", none, lineText(1, y))), nothing),
		"a ref's object is none":      wholeText(1, objectsText(blob), listOf(logText("a", none, lineText(1, none))), nothing),
		"a ref without a name":        both(1, logText("", none, line)),
		"a ref with a long name":      both(1, logText(strings.Repeat("r", api.MaxName+1), none, line)),
		"a ref twice":                 both(1, logText("a", none, line), logText("a", none, line)),
		"refs out of order":           both(1, logText("b", none, line), logText("a", none, line)),
		"an empty log":                both(1, logText("a", none)),
		"an empty log from somewhere": both(1, logText("a", x)),
		"a log that is too long":      both(99, logText("a", none, moved(1, 65)...)),
		"a log too long, later":       both(99, logText("a", y, moved(2, 65)...)),
		"a line of number 0":          both(1, logText("a", none, lineText(0, x))),
		"a line past the number":      both(1, logText("a", none, lineText(2, x))),
		"numbers that stay":           both(9, logText("a", none, lineText(2, x), lineText(2, y))),
		"numbers that fall":           both(9, logText("a", none, lineText(3, x), lineText(2, y))),
		"a line that moves nothing":   both(9, logText("a", none, lineText(2, x), lineText(3, x))),
		"a line to nowhere":           both(9, logText("a", none, lineText(2, x), lineText(3, none), lineText(4, x))),
		"a log that ends nowhere":     both(9, logText("a", none, lineText(2, x), lineText(3, none))),
		"a log that ends elsewhere":   both(9, logText("a", none, lineText(2, x), lineText(3, gone))),
		"a short log from somewhere":  both(9, logText("a", y, lineText(2, x))),
		"63 lines from somewhere":     both(99, logText("a", y, moved(2, 63)...)),
		"no room for the lost line":   both(64, logText("a", y, moved(1, 64)...)),
		"a note without a key":        wholeText(1, nothing, nothing, listOf(noteText("", "v"))),
		"a note with a long key":      wholeText(1, nothing, nothing, listOf(noteText(strings.Repeat("k", api.MaxName+1), "v"))),
		"a note with an empty value":  wholeText(1, nothing, nothing, listOf(noteText("k", ""))),
		"a note with a long value":    wholeText(1, nothing, nothing, listOf(noteText("k", strings.Repeat("v", api.MaxNote+1)))),
		"a note twice":                wholeText(1, nothing, nothing, listOf(noteText("k", "v"), noteText("k", "v"))),
		"notes out of order":          wholeText(1, nothing, nothing, listOf(noteText("l", "v"), noteText("k", "v"))),
		"too many objects":            wholeText(1, objectsText(numbered(api.MaxStore+1)...), nothing, nothing),
		"too many refs":               wholeText(1, objectsText(blob), listOf(manyRefs(api.MaxRefs+1)...), nothing),
		"too many notes":              wholeText(1, nothing, nothing, listOf(manyNotes(api.MaxNotes+1)...)),
		"too heavy":                   wholeText(1, nothing, nothing, listOf(heavyNotes(api.MaxKept+1)...)),
		"too heavy by lines":          wholeText(2, objectsText(blob, tree), listOf(logText("a", none, moved(1, 2)...)), listOf(heavyNotes(api.MaxKept-weightOf(t, txn(blob, tree, ref("a", none, x)))-95)...)),
		"a byte behind it":            both(1) + "x",
		"a byte less":                 both(1)[:len(both(1))-1],
		"lists that end too early":    "\x02\x01",
		"a list of many":              "\x02\x01\xff\xff\x01",
		"no mark":                     "\x00" + both(1)[1:],
		"another mark":                "\x03" + both(1)[1:],
		"nothing at all":              "",
	} {
		broken(t, name, rec(3, text))
	}
	broken(t, "no parts", rec(1))
	broken(t, "two parts", rec(1, both(1), both(1)))
	broken(t, "an empty part more", rec(1, both(1), ""))
	broken(t, "a whole state behind a change", rec(1, base()[0])+rec(2, both(1)))
	broken(t, "a whole state behind a whole state", rec(1, both(1))+rec(2, both(1)))
}

func weightOf(t *testing.T, one api.Txn) int {
	t.Helper()
	v, _ := made(t)
	does(t, v, one)
	return weigh(v)
}

// broken holds that a journal's file is refused, whole and with nothing written.
func broken(t *testing.T, name, file string) {
	t.Helper()
	d := loaded(t, api.MaxRoom, image(file))
	v, err := Open(d)
	answers(t, name, err, api.ErrVaultBroken)
	if v != nil || d.Strokes() != 0 || onDisk(t, d) != file {
		t.Errorf("%s: a vault %v, %d strokes", name, v != nil, d.Strokes())
	}
}

func TestBrokenChanges(t *testing.T) { // P13.6
	nothing := listOf()
	one, two := changeText(1, objectsText(blob, tree), listOf(refText("a", x)), listOf(noteText("k", "v"))), uint64(2)
	new := objectsText(blobOf("1"))
	v, _ := over(t, recs(one, changeText(two, new, listOf(refText("a", y), refText("b", x)), listOf(noteText("k", ""), noteText("l", "v")))))
	sound(t, "a right one", v)
	for name, text := range map[string]string{
		"nothing":                     changeText(two, nothing, nothing, nothing),
		"the number ahead":            changeText(1, new, nothing, nothing),
		"a number that is left out":   changeText(3, new, nothing, nothing),
		"number 0":                    changeText(0, new, nothing, nothing),
		"a number past the end":       changeText(api.MaxSeq+1, new, nothing, nothing),
		"a number in a long form":     "\x01\x82\x00" + new + nothing + nothing,
		"no object":                   changeText(two, objectsText("\x09"), nothing, nothing),
		"an object that is there":     changeText(two, objectsText(blob, blobOf("1")), nothing, nothing),
		"an object twice":             changeText(two, objectsText(blobOf("1"), blobOf("1")), nothing, nothing),
		"objects out of order":        changeText(two, reversed(blobOf("1"), blobOf("2")), nothing, nothing),
		"a child is missing":          changeText(two, objectsText(treeOf(api.ModeFile, api.ID{1})), nothing, nothing),
		"a child of a wrong kind":     changeText(two, objectsText(odd), nothing, nothing),
		"a ref's object is missing":   changeText(two, nothing, listOf(refText("b", api.ID{1})), nothing),
		"a ref that stays":            changeText(two, new, listOf(refText("a", x)), nothing),
		"a ref that stays away":       changeText(two, new, listOf(refText("b", none)), nothing),
		"a ref without a name":        changeText(two, nothing, listOf(refText("", x)), nothing),
		"a ref with a long name":      changeText(two, nothing, listOf(refText(strings.Repeat("r", api.MaxName+1), x)), nothing),
		"a ref twice":                 changeText(two, nothing, listOf(refText("b", x), refText("b", x)), nothing),
		"refs out of order":           changeText(two, nothing, listOf(refText("b", x), refText("a", y)), nothing),
		"a note that stays":           changeText(two, new, nothing, listOf(noteText("k", "v"))),
		"a note that stays away":      changeText(two, new, nothing, listOf(noteText("l", ""))),
		"a note without a key":        changeText(two, nothing, nothing, listOf(noteText("", "v"))),
		"a note with a long key":      changeText(two, nothing, nothing, listOf(noteText(strings.Repeat("k", api.MaxName+1), "v"))),
		"a note with a long value":    changeText(two, nothing, nothing, listOf(noteText("l", strings.Repeat("v", api.MaxNote+1)))),
		"a note twice":                changeText(two, nothing, nothing, listOf(noteText("l", "v"), noteText("l", "w"))),
		"notes out of order":          changeText(two, nothing, nothing, listOf(noteText("m", "v"), noteText("l", "v"))),
		"too many objects":            changeText(two, objectsText(numbered(api.MaxStore-1)...), nothing, nothing),
		"too many refs":               changeText(two, nothing, listOf(changed(manyRefs(api.MaxRefs))...), nothing),
		"too many notes":              changeText(two, nothing, nothing, listOf(manyNotes(api.MaxNotes)...)),
		"too heavy":                   changeText(two, nothing, nothing, listOf(heavyNotes(api.MaxKept-weightOf(t, txn(blob, tree, ref("a", none, x), note("k", "v")))+1)...)),
		"a byte behind it":            changeText(two, new, nothing, nothing) + "x",
		"a byte less":                 changeText(two, new, nothing, nothing)[1:],
		"more objects than are there": "\x01\x02\x02" + new[1:] + nothing + nothing,
		"a count in a long form":      "\x01\x02\x81\x00" + new[1:] + nothing + nothing,
	} {
		broken(t, name, recs(one, text))
		broken(t, name+", and on", recs(one, text, changeText(3, objectsText(blobOf("3")), nothing, nothing)))
	}
	broken(t, "a first one of number 2", recs(changeText(2, new, nothing, nothing)))
	broken(t, "past the last number", rec(3, both(api.MaxSeq))+rec(4, changeText(api.MaxSeq+1, new, nothing, nothing)))
	broken(t, "past the last number, at it", rec(3, both(api.MaxSeq))+rec(4, changeText(api.MaxSeq, new, nothing, nothing)))
}

// reversed tells a list of objects that are not sorted.
func reversed(one, two string) string {
	if text := listOf(long(one), long(two)); text != objectsText(one, two) {
		return text
	}
	return listOf(long(two), long(one))
}

// changed tells refs with one line as those of a change.
func changed(logs []string) []string {
	var list []string
	for i := range logs {
		list = append(list, refText(fmt.Sprintf("r%04d", i), x))
	}
	return list
}

func TestTransactionByTransaction(t *testing.T) { // P13.6: each state on the way is closed and has room, not just the last
	nothing := listOf()
	broken(t, "a child that comes later", recs(changeText(1, objectsText(tree), nothing, nothing), changeText(2, objectsText(blob), nothing, nothing)))
	broken(t, "a ref's object that comes later", recs(changeText(1, nothing, listOf(refText("a", x)), nothing), changeText(2, objectsText(blob), nothing, nothing)))
	heavy := heavyNotes(api.MaxKept)
	broken(t, "too heavy on the way", recs(
		changeText(1, nothing, nothing, listOf(heavy...)),
		changeText(2, nothing, nothing, listOf(noteText("x", "v"))),
		changeText(3, nothing, nothing, listOf(noteText("0", ""), noteText("x", "w")))))
	v, _ := over(t, recs(
		changeText(1, nothing, nothing, listOf(heavy...)),
		changeText(2, nothing, nothing, listOf(noteText("0", ""), noteText("x", "v")))))
	sound(t, "just so heavy on the way", v)
}

func TestTurnedWithRightSums(t *testing.T) { // P13.6, R5: whatever the parts hold
	whole := wholeText(3, objectsText(blob, tree, commitOf(y, "c")), listOf(logText("a", none, lineText(1, x), lineText(3, y)), logText("b", none, lineText(2, x))), listOf(noteText("k", "v"), noteText("l", "w")))
	parts := append([]string{whole}, base()...)
	open := func(what, file string) {
		d := loaded(t, api.MaxRoom, image(file))
		v, err := Open(d)
		if err != nil {
			answers(t, what, err, api.ErrVaultBroken)
			return
		}
		sound(t, what, v)
		was := seen(v)
		does(t, v, txn(note("turned", "1")))
		answers(t, what, v.Compact(), api.OK)
		holds(t, what, opened(t, d), seen(v))
		if seen(v) == was {
			t.Errorf("%s: it does not go on", what)
		}
	}
	file := func(at int, part string) string {
		if at == 0 {
			return recs(part)
		}
		list := slices.Clone(base())
		list[at-1] = part
		return recs(list...)
	}
	for at, part := range parts {
		for bit := range 8 * len(part) {
			b := []byte(part)
			b[bit/8] ^= 1 << (bit % 8)
			open(fmt.Sprintf("part %d, bit %d turned", at, bit), file(at, string(b)))
		}
		for cut := range len(part) {
			broken(t, fmt.Sprintf("part %d, cut to %d", at, cut), file(at, part[:cut]))
			open(fmt.Sprintf("part %d, without byte %d", at, cut), file(at, part[:cut]+part[cut+1:]))
		}
	}
	r := rand.New(rand.NewSource(1))
	for i := range 20000 { // several bytes at once, and pieces of one part in another
		at := r.Intn(len(parts))
		b := []byte(parts[at])
		for range 1 + r.Intn(3) {
			switch r.Intn(3) {
			case 0:
				b[r.Intn(len(b))] = byte(r.Intn(8))
			case 1:
				from := parts[r.Intn(len(parts))]
				k := r.Intn(len(from))
				copy(b[r.Intn(len(b)):], from[k:min(len(from), k+1+r.Intn(60))])
			case 2:
				k := r.Intn(len(b))
				b = slices.Concat(b[:k], []byte(noteText("z", "z")), b[k:])
			}
		}
		open(fmt.Sprintf("drawn %d", i), file(at, string(b)))
	}
}

func TestRecordsMixed(t *testing.T) { // P13.6: records that a vault has written, in another order, some left out, some twice
	v, d := made(t)
	one := blobOf("1")
	does(t, v, txn(blob), txn(tree, ref("a", none, y)), txn(note("k", "v")), txn(ref("a", y, x), one), txn(note("k", "")))
	want := seen(v)
	var parts []string
	for _, list := range v.journal.All() {
		parts = append(parts, string(list[0]))
	}
	answers(t, "Compact", v.Compact(), api.OK)
	parts = append(parts, string(v.journal.All()[0][0]))
	holds(t, "compacted, opened", opened(t, d), want)
	r := rand.New(rand.NewSource(2))
	taken := 0
	for i := range 3000 {
		var list []string
		for range r.Intn(8) {
			list = append(list, parts[r.Intn(len(parts))])
		}
		right := len(list) <= 5 && slices.Equal(list, parts[:len(list)]) || len(list) == 1 && list[0] == parts[5]
		v, err := Open(loaded(t, room, image(recs(list...))))
		if !right {
			answers(t, fmt.Sprintf("drawn %d", i), err, api.ErrVaultBroken)
			continue
		}
		answers(t, fmt.Sprintf("drawn %d", i), err, api.OK)
		sound(t, fmt.Sprintf("drawn %d", i), v)
		taken++
	}
	if taken == 0 {
		t.Error("none was taken")
	}
}
