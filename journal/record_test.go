package journal

import (
	"encoding/binary"
	"fmt"
	"math"
	"strings"
	"testing"

	"satchel/api"
	"satchel/code"
	"satchel/digest"
)

// byCode tells a record by the calls that the chapter names.
func byCode(number uint64, texts ...string) string {
	body := code.New()
	body.U64(number)
	body.U32(uint32(len(texts)))
	for _, s := range texts {
		body.Bytes([]byte(s))
	}
	w := code.New()
	w.U8(0xa7)
	w.U32(uint32(body.Len()))
	w.Raw(body.Out())
	sum := digest.Sum(w.Out())
	w.Raw(sum[:])
	w.U8(0x5a)
	return string(w.Out())
}

func TestRecords(t *testing.T) { // 'A record', P12.2, P12.3
	for _, texts := range [][]string{
		nil, {""}, {"a"}, {"", "", ""}, {"b", "cd"}, {strings.Repeat("x", 127)}, {strings.Repeat("x", 128)}, {strings.Repeat("x", 300), "", "\x00\xff\xa7\x5a"}, {rec(1, "a")},
	} {
		want := byCode(1, texts...)
		d, j := over(t)
		answers(t, "Add", j.Add(parts(texts...)), api.OK)
		files(t, fmt.Sprintf("Add of %q", texts), d, "j", want)
		d, j = over(t)
		answers(t, "Checkpoint", j.Checkpoint(parts(texts...)), api.OK)
		files(t, fmt.Sprintf("Checkpoint of %q", texts), d, "j", want)
		holds(t, "opened", opened(t, d, "j"), fmt.Sprintf("[%q] before 2", parts(texts...)), false)
	}
	if len(rec(1, "a")) != 38+12+1+1 {
		t.Errorf("a record of one part of one byte has %d bytes", len(rec(1, "a")))
	}
}

func TestCutAtEveryByte(t *testing.T) { // P12.1, P12.5, P12.6
	one, two, three := rec(3, "a"), rec(4), rec(5, "b", "", strings.Repeat("c", 200))
	all := one + two + three
	for n := range len(all) + 1 {
		for _, behind := range []string{"", "\x00", strings.Repeat("\x00", 99), "\xa7", "\x5a", one} {
			if behind != "" && strings.HasPrefix(all, all[:n]+behind) {
				continue // as if it were cut later
			}
			want, good := `[] before 1`, 0
			switch {
			case n == len(all):
				want, good = fmt.Sprintf(`[["a"] [] ["b" "" "%s"]] before 6`, strings.Repeat("c", 200)), n
			case n >= len(one+two):
				want, good = `[["a"] []] before 5`, len(one+two)
			case n >= len(one):
				want, good = `[["a"]] before 4`, len(one)
			}
			d, j := over(t, "j", all[:n]+behind)
			holds(t, fmt.Sprintf("cut at %d, %x behind", n, behind), j, want, n > good || behind != "")
			if e := j.Add(parts("z")); e != api.OK || j.Torn() {
				t.Fatalf("cut at %d: Add: %d, torn %v", n, e, j.Torn())
			}
			files(t, "Add", d, "j", all[:good]+rec(j.Next()-1, "z"))
		}
	}
}

func TestBitsTurned(t *testing.T) { // P12.6
	texts := []string{rec(1, "a"), rec(2), rec(3, "b", "cd")}
	all := []byte(strings.Join(texts, ""))
	want := []string{`[] before 1`, `[["a"]] before 2`, `[["a"] []] before 3`}
	at := 0
	for i, text := range texts {
		for place := at; place < at+len(text); place++ {
			for bit := range 8 {
				all[place] ^= 1 << bit
				_, j := over(t, "j", string(all))
				holds(t, fmt.Sprintf("bit %d of byte %d", bit, place), j, want[i], true)
				all[place] ^= 1 << bit
			}
		}
		at += len(text)
	}
}

func TestBytesLostOrPutIn(t *testing.T) { // P12.6
	one, two := rec(1, "a"), rec(2, "bbb")
	all := one + two
	for place := range len(all) {
		want := `[] before 1`
		if place >= len(one) {
			want = `[["a"]] before 2`
		}
		_, j := over(t, "j", all[:place]+all[place+1:])
		holds(t, fmt.Sprintf("byte %d lost", place), j, want, true)
		_, j = over(t, "j", all[:place]+"\x00"+all[place:])
		holds(t, fmt.Sprintf("a byte put in at %d", place), j, want, true)
	}
}

func TestGarbage(t *testing.T) { // P12.1: garbage alone
	for _, b := range []string{"\x00", "\xa7", "\x5a", "x", strings.Repeat("\x00", 200), strings.Repeat("\xa7", 200), strings.Repeat("\xff", 200), "\xa7\xff\xff\xff\xff" + strings.Repeat("\xff", 200), "\xa7\x00\x00\x00\x00", "\xa7\x7f\xff\xff\xff", "\x00" + rec(1, "a"), "garbage" + rec(1, "a")} {
		d, j := over(t, "j", b)
		holds(t, fmt.Sprintf("%.30x", b), j, `[] before 1`, true)
		answers(t, "Add", j.Add(parts("z")), api.OK)
		strokes(t, "Add", d, 4)
		files(t, "Add", d, "j", rec(1, "z"))
	}
}

func TestNumbers(t *testing.T) { // 'The good part', P12.1
	for _, c := range []struct {
		numbers []uint64
		good    int
	}{
		{[]uint64{1, 2, 3}, 3}, {[]uint64{5, 6, 7}, 3}, {[]uint64{2}, 1}, {[]uint64{1, 3}, 1}, {[]uint64{1, 1}, 1}, {[]uint64{2, 1}, 1}, {[]uint64{5, 6, 8, 9}, 2}, {[]uint64{5, 6, 6, 7}, 2}, {[]uint64{5, 4, 5, 6}, 1}, {[]uint64{1, 0}, 1}, {[]uint64{7, 8, 1, 2}, 2},
		{[]uint64{0}, 0}, {[]uint64{0, 1}, 0}, {[]uint64{api.MaxSeq}, 1}, {[]uint64{api.MaxSeq + 1}, 0}, {[]uint64{api.MaxSeq - 1, api.MaxSeq, api.MaxSeq + 1}, 2}, {[]uint64{api.MaxSeq, 1}, 1}, {[]uint64{1 << 63}, 0}, {[]uint64{math.MaxUint64}, 0}, {[]uint64{math.MaxUint64, 0, 1}, 0}, {[]uint64{1 << 32, 1<<32 + 1}, 2},
	} {
		text, want, next := "", []string{}, uint64(1)
		for i, n := range c.numbers {
			text += rec(n, fmt.Sprint(i))
			if i < c.good {
				want, next = append(want, fmt.Sprintf(`["%d"]`, i)), n+1
			}
		}
		_, j := over(t, "j", text)
		holds(t, fmt.Sprint(c.numbers), j, fmt.Sprintf("[%s] before %d", strings.Join(want, " "), next), c.good < len(c.numbers))
	}
}

func TestLastNumber(t *testing.T) { // P12.2, P12.3: Next is above MaxSeq
	d, j := over(t, "j", rec(api.MaxSeq-1, "a"))
	answers(t, "Add with MaxSeq", j.Add(parts("b")), api.OK)
	last := fmt.Sprintf(`[["a"] ["b"]] before %d`, uint64(api.MaxSeq+1))
	holds(t, "MaxSeq", j, last, false)
	n := d.Strokes()
	for range 2 {
		answers(t, "Add", j.Add(nil), api.ErrJournalLong)
		answers(t, "Checkpoint", j.Checkpoint(nil), api.ErrJournalLong)
	}
	strokes(t, "refused", d, n)
	holds(t, "refused", j, last, false)
	holds(t, "opened", opened(t, d, "j"), last, false)

	d, j = over(t, "j", rec(api.MaxSeq, "a")+"torn")
	answers(t, "Add to a torn one", j.Add(nil), api.ErrJournalLong)
	strokes(t, "Add to a torn one", d, 0) // it is refused ahead of the Cut
	if !j.Torn() {
		t.Error("it isn't torn any more")
	}
	_, j = over(t, "j", rec(api.MaxSeq-1, "a"))
	answers(t, "Checkpoint with MaxSeq", j.Checkpoint(parts("s")), api.OK)
	holds(t, "Checkpoint", j, fmt.Sprintf(`[["s"]] before %d`, uint64(api.MaxSeq+1)), false)
	answers(t, "Add behind it", j.Add(nil), api.ErrJournalLong)
}

func TestForged(t *testing.T) { // 'A whole record', R5: the digest fits, but it is the record of no transaction
	body := bodied(2, "a", "bc")
	count := func(n uint32, behind string) string {
		return framed(bodied(2)[:8] + string(binary.BigEndian.AppendUint32(nil, n)) + behind)
	}
	for name, b := range map[string]string{
		"no body":               framed(""),
		"a body too short":      framed(body[:11]),
		"a part too short":      framed(body[:len(body)-1]),
		"a byte too many":       framed(body + "\x00"),
		"a part too many":       count(1, "\x01a\x01b"),
		"a part too few":        count(3, "\x01a\x01b"),
		"parts that are none":   count(1, ""),
		"all parts there can":   count(math.MaxUint32, ""),
		"MaxParts, not there":   count(api.MaxParts, ""),
		"MaxParts and 1":        count(api.MaxParts+1, strings.Repeat("\x00", api.MaxParts+1)),
		"a length not shortest": count(1, "\x81\x00a"),
		"an empty one likewise": count(1, "\x80\x00"),
		"a length past its end": count(1, "\x02a"),
		"a length past all":     count(1, strings.Repeat("\xff", 9)+"\x01a"),
		"a length of 63 bits":   count(1, strings.Repeat("\xff", 8)+"\x7fa"),
		"a length of no end":    count(1, strings.Repeat("\xff", 20)),
		"another head":          resealed("\xa6" + framed(body)[1:5] + body),
		"another tail":          framed(body)[:len(framed(body))-1] + "\x5b",
		"a head's length less":  resealed("\xa7" + string(binary.BigEndian.AppendUint32(nil, uint32(len(body)-1))) + body),
		"a head's length more":  resealed("\xa7" + string(binary.BigEndian.AppendUint32(nil, uint32(len(body)+1))) + body),
		"a digest of the body":  framed(body)[:5] + resealed(body),
		"lengths low end first": resealed("\xa7" + string(binary.LittleEndian.AppendUint32(nil, uint32(len(body)))) + body),
	} {
		d := loaded(t, 30000, image("j", rec(1, "a")+b+rec(2, "z")))
		holds(t, name, opened(t, d, "j"), `[["a"]] before 2`, true)
		d = loaded(t, 30000, image("j", b))
		holds(t, name+" alone", opened(t, d, "j"), `[] before 1`, true)
	}
}

func TestManyParts(t *testing.T) { // P12.2, P12.3: MaxParts, and one more
	d := loaded(t, 1<<20, nil)
	j := opened(t, d, "j")
	list := make([][]byte, api.MaxParts+1)
	list[api.MaxParts-1] = []byte("last")
	answers(t, "Add of MaxParts and 1", j.Add(list), api.ErrJournalLong)
	answers(t, "Checkpoint of MaxParts and 1", j.Checkpoint(list), api.ErrJournalLong)
	strokes(t, "refused", d, 0)
	answers(t, "Add of MaxParts", j.Add(list[:api.MaxParts]), api.OK)
	answers(t, "Checkpoint of MaxParts", j.Checkpoint(list[:api.MaxParts]), api.OK)
	answers(t, "Add of MaxParts", j.Add(list[:api.MaxParts]), api.OK)
	for _, j := range []*Journal{j, opened(t, d, "j")} {
		all := j.All()
		if len(all) != 2 || len(all[0]) != api.MaxParts || len(all[1]) != api.MaxParts || string(all[1][api.MaxParts-1]) != "last" || j.Next() != 4 || j.Torn() {
			t.Errorf("MaxParts: %d transactions, Next %d, torn %v", len(all), j.Next(), j.Torn())
		}
	}
}

func TestLongRecords(t *testing.T) { // P12.2, P12.3: records of MaxRecord bytes, and of one more
	for name, others := range map[string][]string{
		"one part":    nil,
		"two parts":   {strings.Repeat("x", 128)},
		"empty parts": {"", "", ""},
		"many parts":  strings.Split(strings.Repeat(",", api.MaxParts-2), ","),
	} {
		left := api.MaxRecord - len(rec(1, others...)) - 4 // the length of so many bytes takes four
		long := make([]byte, left+1)
		d := loaded(t, 1<<26, nil)
		j := opened(t, d, "j")
		answers(t, name+": Add of one more", j.Add(append(parts(others...), long)), api.ErrJournalLong)
		answers(t, name+": Checkpoint of one more", j.Checkpoint(append(parts(others...), long)), api.ErrJournalLong)
		strokes(t, name, d, 0)
		list := append(parts(others...), long[:left])
		answers(t, name+": Add of MaxRecord", j.Add(list), api.OK)
		if n, _ := d.Size("j"); n != api.MaxRecord {
			t.Errorf("%s: a record of %d bytes", name, n)
		}
		answers(t, name+": Checkpoint of MaxRecord", j.Checkpoint(list), api.OK)
		k := opened(t, d, "j")
		if all := k.All(); len(all) != 1 || len(all[0]) != len(list) || len(all[0][len(others)]) != left || k.Next() != 3 || k.Torn() {
			t.Errorf("%s: opened: %d transactions, Next %d, torn %v", name, len(all), k.Next(), k.Torn())
		}
	}
}

func TestLongRecordOfAFile(t *testing.T) { // 'A whole record': a file can hold what no Add writes
	most := api.MaxRecord - 38 - 12 - 4
	for more, torn := range map[int]bool{0: false, 1: true} {
		j := opened(t, loaded(t, 1<<26, image("j", rec(1, strings.Repeat("x", most+more)))), "j")
		if (j.Len() == 0) != torn || j.Torn() != torn {
			t.Errorf("a record of MaxRecord and %d: %d transactions, torn %v", more, j.Len(), j.Torn())
		}
	}
}
