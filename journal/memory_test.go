package journal

import (
	"fmt"
	"runtime"
	"slices"
	"strings"
	"testing"
	"time"

	"satchel/api"
)

const spare = "spare room"

// roomy copies a text into a list with spare room behind its end.
func roomy(text string) []byte { return []byte(text + spare)[: len(text) : len(text)+len(spare)] }

func untouched(b []byte, was string) bool {
	return string(b) == was && string(b[:cap(b)][len(b):]) == spare
}

// spoil writes over bytes and the spare room behind them.
func spoil(b []byte) {
	for i := range b[:cap(b)] {
		b[:cap(b)][i] = '#'
	}
}

// spoilAll writes over an answer, the spare room of each list too.
func spoilAll(all [][][]byte) {
	for _, list := range all[:cap(all)] {
		for _, p := range list[:cap(list)] {
			spoil(p)
		}
		clear(list[:cap(list)])
	}
	clear(all[:cap(all)])
}

func TestMemoryOfParts(t *testing.T) { // P12.7, R2: what is handed in is neither changed nor kept
	for name, ask := range calls() {
		for off := 0; off <= 4; off++ {
			d, j := over(t, "j", rec(1, "a")+"torn")
			d.Plan(api.Plan{Off: off})
			list := append(make([][]byte, 0, 9), roomy("b"), roomy(""), roomy("cd"), roomy("behind"))[:3]
			e := ask(j, list)
			for i, was := range []string{"b", "", "cd", "behind"} {
				if !untouched(list[:4][i], was) {
					t.Errorf("%s: part %d is %q", name, i, list[:4][i][:cap(list[:4][i])])
				}
			}
			if list[:5][4] != nil {
				t.Errorf("%s: the list's room is written to", name)
			}
			was := state(j)
			for _, p := range list[:4] {
				spoil(p)
			}
			clear(list[:4])
			if e != api.OK {
				continue
			}
			if got := state(j); got != was || !strings.Contains(got, `["b" "" "cd"]`) {
				t.Errorf("%s: what was handed in is kept: %s, then %s", name, was, got)
			}
			holds(t, name, opened(t, d, "j"), was, false)
		}
	}
}

func TestMemoryOfOnePart(t *testing.T) { // R2: one list handed in as several parts, and again and again
	_, j := over(t)
	b := make([]byte, 0, 16)
	for i := range 3 {
		b = append(b, byte('0'+i))
		answers(t, "Add", j.Add([][]byte{b, b[i:], b}), api.OK)
	}
	const want = `[["0" "0" "0"] ["01" "1" "01"] ["012" "2" "012"]] before 4`
	holds(t, "one list", j, want, false)
	spoil(b)
	holds(t, "one list, written to", j, want, false)
}

func TestMemoryOfAll(t *testing.T) { // P12.7, R2: what is answered is new memory
	d, fresh := over(t)
	answers(t, "Add", fresh.Add(parts("a", "", "bc")), api.OK)
	answers(t, "Add", fresh.Add(nil), api.OK)
	answers(t, "Add", fresh.Add(parts("d")), api.OK)
	const want = `[["a" "" "bc"] [] ["d"]] before 4`
	checked := opened(t, d, "j")
	for name, j := range map[string]*Journal{"added": fresh, "opened": checked} {
		one, two := j.All(), j.All()
		spoilAll(one)
		if got := fmt.Sprintf("%q before %d", two, j.Next()); got != want {
			t.Errorf("%s: two answers share memory: %s", name, got)
		}
		holds(t, name, j, want, false)
		for i := range two { // no two lists of one answer share any
			for k := range two[i] {
				rest := j.All()
				_ = append(rest[i][k], "####"...)
				_ = append(rest[i], []byte("####"))
				_ = append(rest, nil, nil)
				spoil(rest[i][k])
				rest[i][k] = two[i][k]
				if got := fmt.Sprintf("%q before %d", rest, j.Next()); got != want {
					t.Errorf("%s: lists of one answer share memory: %s", name, got)
				}
			}
		}
		files(t, name, d, "j", rec(1, "a", "", "bc")+rec(2)+rec(3, "d"))
	}
	all := fresh.All()
	answers(t, "Add", fresh.Add(parts("later")), api.OK)
	answers(t, "Checkpoint", fresh.Checkpoint(parts("s")), api.OK)
	if got := fmt.Sprintf("%q before 4", all); got != want {
		t.Errorf("what was answered has changed: %s", got)
	}
}

func TestMemoryOfTheDisk(t *testing.T) { // R2: what a journal keeps is its own
	d, j := over(t, "j", rec(1, "a")+rec(2, "b"))
	b, _ := d.Read("j")
	spoil(b)
	holds(t, "opened", j, `[["a"] ["b"]] before 3`, false)
	k := opened(t, d, "j")
	answers(t, "Add", j.Add(parts("c")), api.OK)
	holds(t, "the other one", k, `[["a"] ["b"]] before 3`, false)
}

// taken tells how many bytes of memory a call takes.
func taken(call func()) uint64 {
	var before, after runtime.MemStats
	runtime.ReadMemStats(&before)
	call()
	runtime.ReadMemStats(&after)
	return after.TotalAlloc - before.TotalAlloc
}

func TestMemoryIsBounded(t *testing.T) { // R6: sizes are looked at ahead of work
	_, j := over(t)
	long := make([]byte, 1<<26)
	list := slices.Repeat([][]byte{long}, api.MaxParts)
	short := slices.Repeat([][]byte{long[:1<<10]}, api.MaxParts) // it has MaxRecord bytes in its parts alone
	for name, ask := range calls() {
		for _, list := range [][][]byte{list, list[:1], short, slices.Repeat(list, 10)} {
			n := taken(func() { answers(t, name, ask(j, list), api.ErrJournalLong) })
			if n > 1<<20 {
				t.Errorf("%s of %d parts takes %d bytes", name, len(list), n)
			}
		}
	}
	for _, b := range []string{"\xa7\xff\xff\xff\xff", "\xa7\x00\x7f\xff\xda", framed(bodied(1)[:8] + "\xff\xff\xff\xff"), framed(bodied(1)[:8] + "\x00\x00\x00\x01\xff\xff\xff\xff\xff\xff\xff\xff\xff\x01")} {
		d := loaded(t, room, image("j", b))
		if n := taken(func() { opened(t, d, "j") }); n > 1<<20 {
			t.Errorf("Open of %x takes %d bytes", b, n)
		}
	}
}

func TestKeptIsLittle(t *testing.T) { // what is kept goes by the good part, not by the parts' number or what is torn
	text := rec(1, slices.Repeat([]string{""}, api.MaxParts)...) + strings.Repeat("x", 1<<25)
	d := loaded(t, api.MaxRoom, image("j", text))
	var before, after runtime.MemStats
	runtime.GC()
	runtime.ReadMemStats(&before)
	j := opened(t, d, "j")
	runtime.GC()
	runtime.ReadMemStats(&after)
	if n := int64(after.HeapAlloc) - int64(before.HeapAlloc); n > 1<<20 {
		t.Errorf("an open journal of some 8000 bytes keeps %d", n)
	}
	if j.Len() != 1 || !j.Torn() {
		t.Errorf("%d transactions, torn %v", j.Len(), j.Torn())
	}
	runtime.KeepAlive(text) // else it could go between the two readings
}

func TestManyRecords(t *testing.T) { // R1: a long file is gone through once
	const many = 100000
	var text strings.Builder
	for i := range many {
		text.WriteString(rec(uint64(i)+1, "x"))
	}
	d := loaded(t, api.MaxRoom, image("j", text.String()))
	begin := time.Now()
	j := opened(t, d, "j")
	answers(t, "Add", j.Add(parts("y")), api.OK)
	if all := j.All(); len(all) != many+1 || string(all[many][0]) != "y" || string(all[many-1][0]) != "x" || j.Next() != many+2 {
		t.Errorf("%d transactions, Next %d", len(all), j.Next())
	}
	if took := time.Since(begin); took > time.Minute {
		t.Errorf("it takes %v", took)
	}
}
