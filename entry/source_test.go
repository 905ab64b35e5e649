package entry

import (
	"bytes"
	"fmt"
	"slices"
	"strings"
	"testing"

	"satchel/api"
	"satchel/vault"
)

// from lays a header of some source.
func from(source string, seq uint64, list []api.Stamp) api.Header {
	return api.Header{From: source, To: "away", Seq: seq, Stamps: list}
}

// does imports a bundle that must come in, and tells of it.
func does(t *testing.T, v *vault.Vault, rules []api.Rule, data []byte) api.Result {
	t.Helper()
	r, err := Import(v, "away", []byte("k"), rules, data)
	answers(t, "Import", err, api.OK)
	return r
}

func TestTwoNamesOneTarget(t *testing.T) { // P17.1, step 5
	w := newWorld()
	rules := rulesOf("heads/*:far/* tags/*:far/* top:far/a")
	bring := func(seq uint64, triples ...any) []byte {
		return w.brings(head(seq, nil, stamps(triples...)), w.b, w.t, w.c)
	}
	v := newVault(t)
	refuses(t, "two of the header", v, rules, bring(1, "heads/a", w.c, 1, "tags/a", w.c, 1), api.ErrEntryClash)
	refuses(t, "two that are gone", v, rules, bring(1, "heads/a", none, 1, "tags/a", none, 1), api.ErrEntryClash)
	refuses(t, "among others", v, rules, bring(1, "heads/a", w.c, 1, "heads/b", w.c, 1, "tags/c", w.c, 1, "top", none, 1), api.ErrEntryClash)
	comes(t, "unlike targets", v, rules, bring(2, "heads/a", w.c, 2, "tags/b", none, 1), result(2, 3, false, "far/a", none, w.c, api.HowMade, "far/b", none, none, api.HowSame))
	refuses(t, "one that is kept", v, rules, bring(3, "tags/a", w.c, 3), api.ErrEntryClash)
	refuses(t, "one that is kept and gone", v, rules, bring(3, "heads/b", w.c, 3), api.ErrEntryClash)
	refuses(t, "an older one", v, rules, bring(1, "tags/a", w.c, 1), api.ErrEntryClash)
	comes(t, "the same name", v, rules, bring(3, "heads/a", w.c, 3), result(3, 0, false, "far/a", w.c, w.c, api.HowSame))
	comes(t, "names without a target", v, rules, bring(4, "other/a", w.c, 4, "other/b", w.c, 4), result(4, 0, false))
	comes(t, "from another source", v, rulesOf("heads/*:else/*"), w.brings(from("other", 1, stamps("heads/a", w.c, 1))), api.Result{From: "other", Seq: 1, Refs: rowsOf("else/a", none, w.c, api.HowMade)})
	// Two that are kept have one target by other rules, though the bundle names neither.
	refuses(t, "two that are kept", v, rulesOf("heads/a:x other/a:x"), bring(5, "heads/z", w.c, 5), api.ErrEntryClash)
	refuses(t, "two that are kept, and no stamps", v, rulesOf("heads/a:x other/a:x"), bring(5), api.ErrEntryClash)
	comes(t, "two that are kept, left out", v, rulesOf("heads/a:x other/a:x ^other/*"), bring(5), result(5, 0, false))
}

func TestAnothersTargets(t *testing.T) { // P17.1, step 6
	w := newWorld()
	v := newVault(t)
	rules := rulesOf("heads/*:far/* tags/*:tags/*")
	has(t, v, api.Txn{Objects: w.encs(w.b, w.t, w.c, w.d), Refs: []api.RefChange{{Name: "far/mine", New: w.d}}})
	does(t, v, rules, w.brings(from("home", 5, stamps("heads/a", w.c, 5, "heads/gone", none, 5, "heads/mine", w.c, 5, "nowhere", w.c, 5))))
	does(t, v, rulesOf("heads/*:else/*"), w.brings(from("home", 3, stamps("heads/a", w.d, 3, "heads/late", none, 3))))
	other := func(seq uint64, triples ...any) []byte { return w.brings(from("other", seq, stamps(triples...))) }
	for _, name := range []string{"heads/a", "heads/gone", "heads/mine"} {
		refuses(t, "home's "+name, v, rules, other(1, "heads/0", w.c, 1, name, w.c, 1, "heads/z", w.c, 1), api.ErrEntryFrom)
	}
	for _, name := range []string{"heads/a", "heads/late"} { // whatever has been done to the ref
		refuses(t, "home's other "+name, v, rulesOf("heads/*:else/*"), other(1, name, none, 1), api.ErrEntryFrom)
	}
	r := does(t, v, rules, other(1, "heads/0", w.c, 1, "nowhere", w.c, 1, "tags/a", w.d, 1))
	if want := (api.Result{From: "other", Seq: 1, Refs: rowsOf("far/0", none, w.c, api.HowMade, "tags/a", none, w.d, api.HowMade)}); !sameResult(r, want) {
		t.Errorf("%s, want %s", told(r), told(want))
	}
	refuses(t, "other's", v, rules, w.brings(from("home", 6, stamps("heads/0", w.c, 6))), api.ErrEntryFrom)
	refuses(t, "other's by another rule", v, rulesOf("nowhere:tags/a"), w.brings(from("home", 6, stamps("nowhere", w.c, 6))), api.ErrEntryFrom)
	refuses(t, "a third one's", v, rules, w.brings(from("third", 6, stamps("tags/a", w.c, 6))), api.ErrEntryFrom)
	refuses(t, "a source's whose name begins likewise", v, rules, w.brings(from("hom", 6, stamps("heads/a", w.c, 6))), api.ErrEntryFrom)
	comes(t, "one's own", v, rules, w.brings(from("home", 6, stamps("heads/a", w.d, 6, "heads/new", w.d, 6))), result(6, 0, false, "far/a", w.c, w.d, api.HowForward, "far/new", none, w.d, api.HowMade))
	comes(t, "that is kept without a target", v, rules, w.brings(from("home", 7, stamps("nowhere", w.d, 7))), result(7, 0, false))
	moveTo(t, v, "far/a", none)
	refuses(t, "home's, whose ref another hand has taken away", v, rules, other(2, "heads/a", w.c, 2), api.ErrEntryFrom)
	// A note that another hand has under another key is nobody's.
	has(t, v, api.Txn{Notes: append(notesUnder(v, "entrance/home"), notesUnder(v, "entry")...)})
	comes(t, "home's", v, rules, w.brings(from("home", 8, stamps("heads/a", w.c, 8))), result(8, 0, false, "far/a", none, w.c, api.HowMade))
}

// notesUnder tells home's note under another key.
func notesUnder(v *vault.Vault, key string) []api.Note {
	value, _ := v.Note("entry/home")
	return []api.Note{{Key: key, Value: value}}
}

func TestRowsOfNumbers(t *testing.T) { // P17.1, steps 7 and 8; P17.6
	w := newWorld()
	v := newVault(t)
	bring := func(seq uint64) []byte { return w.brings(head(seq, nil, nil)) }
	var want []uint64
	for i := range uint64(api.MaxRanges) {
		does(t, v, nil, bring(3*i+3)) // 3, 6 .. 768
		want = append(want, 3*i+3)
	}
	accepts(t, "the greatest number of rows", v, "home", want...)
	for _, seq := range []uint64{1, 770, 900, api.MaxSeq} {
		refuses(t, fmt.Sprint("one more row: ", seq), v, nil, bring(seq), api.ErrEntryMany)
	}
	for _, seq := range []uint64{3, 300, 768} {
		comes(t, fmt.Sprint("again: ", seq), v, nil, bring(seq), result(seq, 0, true))
	}
	comes(t, "it touches the row ahead", v, nil, bring(769), result(769, 0, false))
	comes(t, "it touches the row behind", v, nil, bring(2), result(2, 0, false))
	refuses(t, "still too many", v, nil, bring(771), api.ErrEntryMany)
	comes(t, "it touches", v, nil, bring(100), result(100, 0, false))
	comes(t, "it touches both", v, nil, bring(101), result(101, 0, false))
	comes(t, "one row more, since two are one", v, nil, bring(api.MaxSeq), result(api.MaxSeq, 0, false))
	refuses(t, "and another one", v, nil, bring(771), api.ErrEntryMany)
	comes(t, "in the midst of a row", v, nil, bring(101), result(101, 0, true))
	want = append(want, 2, 100, 101, 769, api.MaxSeq)
	slices.Sort(want)
	accepts(t, "at last", v, "home", want...)
	comes(t, "another source", v, nil, w.brings(from("other", 900, nil)), api.Result{From: "other", Seq: 900})
	noteFits(t, v, "home", 256, nil, nil)
	noteFits(t, v, "other", 1, nil, nil)
}

// noteFits looks whether a source has one note, and whether that is no greater than it may be.
func noteFits(t *testing.T, v *vault.Vault, source string, rows int, stamps, targets []string) {
	t.Helper()
	most := 700 + 32*rows + 64*len(stamps) + 16*len(targets)
	most += len(strings.Join(stamps, "")) + len(strings.Join(targets, ""))
	found := 0
	for _, n := range notesOf(v) {
		if !strings.Contains(n.Key, source) {
			continue
		}
		found++
		if size := len(n.Key) + len(n.Value); size > most {
			t.Errorf("%s: a note of %d bytes, at most %d", source, size, most)
		}
	}
	if found != 1 {
		t.Errorf("%s: %d notes", source, found)
	}
}

// names tells so many names of length n.
func names(ahead string, count, n int) []string {
	var list []string
	for i := range count {
		list = append(list, fmt.Sprintf("%s%s%04d", ahead, strings.Repeat("n", n-len(ahead)-4), i))
	}
	return list
}

func goneStamps(names []string, seq uint64) []api.Stamp {
	var list []api.Stamp
	for _, name := range names {
		list = append(list, api.Stamp{Name: name, Seq: seq})
	}
	return list
}

func TestGreatestNumberOfStamps(t *testing.T) { // P17.1, step 7
	w := newWorld()
	for _, rules := range [][]api.Rule{nil, rulesOf("a/*:far/*"), rulesOf("a/*:far/* ^a/nn*")} {
		v := newVault(t)
		list := names("a/", api.MaxStamps, 20)
		does(t, v, rules, w.brings(head(2, nil, goneStamps(list[:300], 2))))
		does(t, v, rules, w.brings(head(3, nil, goneStamps(list[200:], 3))))
		refuses(t, "one more", v, rules, w.brings(head(4, nil, goneStamps([]string{"b"}, 4))), api.ErrEntryMany)
		refuses(t, "one more, of an old number", v, rules, w.brings(head(3, nil, goneStamps([]string{list[0], list[511], "a/z"}, 1))), api.ErrEntryMany)
		r := does(t, v, rules, w.brings(head(4, nil, goneStamps(list, 4))))
		if r.Seq != 4 || len(r.Refs) != 0 && len(r.Refs) != api.MaxStamps {
			t.Errorf("%d refs", len(r.Refs))
		}
		does(t, v, rules, w.brings(head(5, nil, nil)))
		does(t, v, rules, w.brings(from("other", 5, goneStamps([]string{"b"}, 4))))
	}
}

func TestGreatestNumberOfTargets(t *testing.T) { // P17.1, step 7
	w := newWorld()
	v := newVault(t)
	list := names("a/", 256, 20)
	one, two := rulesOf("a/*:one/*"), rulesOf("a/*:two/*")
	does(t, v, one, w.brings(head(1, nil, goneStamps(list, 1))))
	does(t, v, two, w.brings(head(2, nil, goneStamps(list, 2))))
	third := w.brings(head(3, nil, goneStamps(list[:1], 3)))
	refuses(t, "one more", v, rulesOf("a/*:three/*"), third, api.ErrEntryMany)
	does(t, v, one, third)
	does(t, v, two, third)
	does(t, v, nil, third)
	does(t, v, rulesOf("other:three"), third)
	refuses(t, "one more, accepted", v, rulesOf("a/*:three/*"), third, api.ErrEntryMany)
	refuses(t, "one more by a new name", v, rulesOf("x:three a/*:one/*"), w.brings(head(4, nil, goneStamps([]string{list[0], "x"}, 3))), api.ErrEntryMany)
	comes(t, "another source", v, rulesOf("a/*:three/*"), w.brings(from("other", 1, goneStamps(list[:1], 1))), api.Result{From: "other", Seq: 1, Refs: rowsOf("three/"+list[0][2:], none, none, api.HowSame)})
}

func TestNotesSize(t *testing.T) { // 'What is kept of a source'
	w := newWorld()
	v := newVault(t)
	does(t, v, nil, w.brings(from("a", 1, nil)))
	noteFits(t, v, "a", 1, nil, nil)

	source := strings.Repeat("s", 64)
	v = newVault(t)
	var stamped []string
	seq := uint64(api.MaxSeq)
	for i, name := range append(names("a/", api.MaxStamps/2, api.MaxName), names("b/", api.MaxStamps/2, api.MaxName)...) {
		does(t, v, rulesOf("a/*:x/* b/*:y/*"), w.brings(from(source, seq, goneStamps([]string{name}, seq-uint64(i)))))
		stamped = append(stamped, name)
		noteFits(t, v, source, i/2+1, stamped, stamped) // a target has as many bytes as its name
		if i%2 == 1 {
			seq -= 2
		}
		if i%32 == 0 {
			answers(t, "Compact", v.Compact(), api.OK)
		}
	}
	// All of it is known.
	if got := Accepted(v, source); len(got) != api.MaxRanges || got[0] != seq+2 || got[255] != api.MaxSeq {
		t.Errorf("accepted: %d", got)
	}
	refuses(t, "one more stamp", v, nil, w.brings(from(source, api.MaxSeq, goneStamps([]string{"c"}, 1))), api.ErrEntryMany)
	refuses(t, "one more target", v, rulesOf("a/*:z/*"), w.brings(from(source, api.MaxSeq, goneStamps(stamped[:1], 1))), api.ErrEntryMany)
	refuses(t, "one more row", v, nil, w.brings(from(source, 7, nil)), api.ErrEntryMany)
	has(t, v, api.Txn{Objects: w.encs(w.b), Refs: []api.RefChange{{Name: "x" + stamped[0][1:], New: w.b}}})
	r := does(t, v, rulesOf("a/*:x/*"), w.brings(from(source, api.MaxSeq, goneStamps(stamped[:1], api.MaxSeq-1))))
	if !r.Again || len(r.Refs) != 1 || r.Refs[0].How != api.HowStale {
		t.Errorf("a late stamp: %s", told(r))
	}
}

func TestSameBytes(t *testing.T) { // 'What is kept of a source': the same numbers, stamps and targets as the same bytes
	w := newWorld()
	rules := rulesOf("a/*:far/* b/*:tags/*")
	vaults := []*vault.Vault{newVault(t), newVault(t), newVault(t), newVault(t)}
	for _, v := range vaults {
		has(t, v, api.Txn{Objects: w.encs(w.b, w.t, w.c, w.d)})
	}
	one := stamps("a/x", w.c, 2, "b/y", w.d, 1, "no", w.c, 2)
	two := stamps("a/x", w.d, 1, "a/z", none, 4, "b/y", w.d, 3)
	three := stamps("a/x", w.c, 1)
	bring := func(seq uint64, list []api.Stamp) []byte { return w.brings(head(seq, nil, list)) }
	for _, b := range [][]byte{bring(2, one), bring(5, two), bring(3, three), bring(4, nil)} {
		does(t, vaults[0], rules, b)
	}
	for _, b := range [][]byte{bring(3, three), bring(5, two), bring(2, one), bring(5, two), bring(4, nil)} {
		does(t, vaults[1], rules, b)
	}
	// Other bundles with the same outcome, objects and refs that are others, another number of transactions.
	moveTo(t, vaults[2], "mine", w.d)
	moveTo(t, vaults[2], "tags/y", w.c)
	merged := stamps("a/x", w.c, 2, "a/z", none, 4, "b/y", w.d, 3, "no", w.c, 2)
	for _, b := range [][]byte{bring(4, merged), bring(5, stamps("a/x", none, 1)), bring(3, nil), w.brings(head(2, ids(w.c), nil), w.on("new"))} {
		does(t, vaults[2], rules, b)
	}
	// The targets come by other rules.
	for _, b := range [][]byte{bring(4, merged), bring(5, nil), bring(3, nil), bring(2, nil)} {
		does(t, vaults[3], rulesOf("a/x:far/x b/y:tags/y a/z:far/z"), b)
	}
	want := notesOf(vaults[0])
	for i, v := range vaults {
		got := notesOf(v)
		if len(got) != 1 || got[0].Key != want[0].Key || !bytes.Equal(got[0].Value, want[0].Value) {
			t.Errorf("vault %d: %x, want %x", i, got, want)
		}
		accepts(t, "home", v, "home", 2, 3, 4, 5)
	}
	// What differs in one thing stands there as other bytes.
	texts := map[string]string{string(want[0].Value): "the first"}
	for what, c := range map[string]struct {
		rules []api.Rule
		last  []byte
	}{
		"a number":            {rules, bring(6, nil)},
		"a number of a stamp": {rules, bring(5, stamps("a/x", w.c, 3))},
		"an id of a stamp":    {rules, bring(5, stamps("a/x", w.d, 3))},
		"a name of a stamp":   {rules, bring(5, stamps("c", w.d, 3))},
		"a target":            {rulesOf("b/y:more"), bring(5, stamps("b/y", w.d, 3))},
	} {
		v := newVault(t)
		has(t, v, api.Txn{Objects: w.encs(w.b, w.t, w.c, w.d)})
		for _, b := range [][]byte{bring(4, merged), bring(5, nil), bring(3, nil), bring(2, nil)} {
			does(t, v, rules, b)
		}
		does(t, v, c.rules, c.last)
		got := string(notesOf(v)[0].Value)
		if texts[got] != "" {
			t.Errorf("%s: the same note as %s", what, texts[got])
		}
		texts[got] = what
	}
}

func TestSourcesApart(t *testing.T) { // 'What is kept of a source': a note of its own for each
	w := newWorld()
	v := newVault(t)
	has(t, v, api.Txn{Objects: w.encs(w.b, w.t, w.c), Notes: []api.Note{{Key: "mine", Value: []byte("x")}}})
	sources := []string{"a", "b", "ab", "a.b", "-", strings.Repeat("z", 64), "away"}
	for i, source := range sources {
		r := does(t, v, rulesOf("x:"+strings.Repeat("x", i+1)), w.brings(from(source, uint64(i+1), stamps("x", w.c, 1))))
		if r.Again || r.From != source {
			t.Errorf("%s: %s", source, told(r))
		}
		if got := len(notesOf(v)); got != i+1 || len(v.Notes()) != i+2 {
			t.Errorf("%d notes of sources", got)
		}
		for j, other := range sources {
			if j <= i {
				accepts(t, source, v, other, uint64(j+1))
			} else {
				accepts(t, source, v, other)
			}
		}
	}
}

func TestNotesOfNobody(t *testing.T) { // R1: whatever stands in a source's note, each call answers
	w := newWorld()
	v := newVault(t)
	does(t, v, rulesOf("x:y"), w.brings(from("home", 7, stamps("x", w.b, 7)), w.b))
	right, _ := v.Note("entry/home")
	for n := range len(right) + 1 {
		has(t, v, api.Txn{Notes: []api.Note{{Key: "entry/home", Value: append(slices.Clone(right[:n]), make([]byte, n/len(right))...)}}})
		accepts(t, fmt.Sprint(n, " bytes of a note"), v, "home")
		r, err := Check(v, "away", []byte("k"), rulesOf("x:y"), w.brings(from("home", 7, stamps("x", none, 6))))
		answers(t, "Check", err, api.OK)
		if r.Again || r.Refs[0].How != api.HowGone {
			t.Errorf("%d bytes of a note: %s", n, told(r))
		}
		_, err = Check(v, "away", []byte("k"), rulesOf("x:y"), w.brings(from("other", 7, stamps("x", none, 6))))
		answers(t, "Check", err, api.OK)
	}
	has(t, v, api.Txn{Notes: []api.Note{{Key: "entry/home", Value: right}}})
	accepts(t, "the right one", v, "home", 7)
}
