package journal

import (
	"fmt"
	"slices"
	"strings"
	"testing"

	"satchel/api"
	"satchel/disk"
)

// call is an Add or a Checkpoint.
type call func(j *Journal, parts [][]byte) api.Errno

func calls() map[string]call {
	return map[string]call{"Add": (*Journal).Add, "Checkpoint": (*Journal).Checkpoint}
}

// leaves holds what a crash leaves against files by turns of name and bytes.
func leaves(t *testing.T, what string, d *disk.Disk, picks []int, words []string) {
	t.Helper()
	if got, want := told(d.Crash(picks)), told(image(words...)); got != want {
		t.Errorf("%s, picks %v: %s is left, want %s", what, picks, got, want)
	}
}

func TestStrokesOfAdd(t *testing.T) { // P12.2: which disk call is which stroke, told by what a crash at it can leave
	a, az, torn := []string{"j", rec(1, "a")}, []string{"j", rec(1, "a") + rec(2, "z")}, []string{"j", rec(1, "a") + "torn"}
	var none []string
	z := []string{"j", rec(1, "z")}
	for name, c := range map[string]struct {
		words []string
		left  [][2][]string // at each stroke: with nothing kept, with all kept
	}{
		"whole":     {a, [][2][]string{{a, az}, {a, az}, {az, az}}},                             // Append, Sync, SyncNames
		"torn":      {torn, [][2][]string{{torn, a}, {torn, az}, {torn, az}, {az, az}}},         // Cut ahead of them
		"not there": {none, [][2][]string{{none, z}, {none, z}, {none, z}}},                     // the name isn't safe till the last
		"empty":     {[]string{"j", ""}, [][2][]string{{{"j", ""}, z}, {{"j", ""}, z}, {z, z}}}, // there is nothing to be cut
	} {
		for i, left := range c.left {
			what := fmt.Sprintf("%s: off at %d", name, i+1)
			d, j := over(t, c.words...)
			d.Plan(api.Plan{Off: i + 1})
			answers(t, what, j.Add(parts("z")), api.ErrDiskOff)
			strokes(t, what, d, i+1)
			leaves(t, what, d, nil, left[0])
			leaves(t, what, d, []int{-1, -1}, left[1])
		}
		d, j := over(t, c.words...)
		d.Plan(api.Plan{Off: len(c.left) + 1})
		answers(t, name, j.Add(parts("z")), api.OK)
		leaves(t, name, d, nil, c.left[len(c.left)-1][1])
	}
}

func TestSyncComesAheadOfSyncNames(t *testing.T) { // P12.2
	d, j := over(t)
	d.Plan(api.Plan{Off: 3})
	answers(t, "Add", j.Add(parts("z")), api.ErrDiskOff)
	if got := told(d.Crash([]int{1})); got != told(image("j", rec(1, "z"))) {
		t.Errorf("with the name kept alone: %s", got)
	}
}

func TestStrokesOfCheckpoint(t *testing.T) { // P12.3
	old := rec(1, "a")
	second := func(words []string, b string) []string { return append(slices.Clip(words), "j.new", b) }
	none, torn, a := []string(nil), []string{"j", old + "torn"}, []string{"j", old}
	for name, c := range map[string]struct {
		words   []string
		removed bool // a second file is there, and goes at a stroke ahead of the others
	}{
		"whole": {a, false}, "torn": {torn, false}, "not there": {none, false},
		"whole, a second file": {a, true}, "torn, a second file": {torn, true}, "not there, a second file": {none, true},
	} {
		s := rec(2, "s")
		if c.words == nil {
			s = rec(1, "s")
		}
		whole := []string{"j", s}
		made, both := second(c.words, ""), second(c.words, s)
		begin := c.words                                                                  // what is safe
		left := [][2][]string{{made, both}, {made, both}, {whole, whole}, {whole, whole}} // Append, Sync, Rename, SyncNames: with all names and no bytes kept, with all kept
		if c.removed {
			begin = second(c.words, "left")
			left = append([][2][]string{{c.words, c.words}}, left...)
		}
		for i := range left {
			what := fmt.Sprintf("%s: off at %d", name, i+1)
			d, j := over(t, begin...)
			d.Plan(api.Plan{Off: i + 1})
			answers(t, what, j.Checkpoint(parts("s")), api.ErrDiskOff)
			strokes(t, what, d, i+1)
			leaves(t, what, d, nil, begin)
			leaves(t, what, d, []int{-1}, left[i][0])
			leaves(t, what, d, []int{-1, -1, -1}, left[i][1])
		}
		d, j := over(t, begin...)
		d.Plan(api.Plan{Off: len(left) + 1})
		answers(t, name, j.Checkpoint(parts("s")), api.OK)
		leaves(t, name, d, nil, whole)
	}
}

func TestCheckpointWithoutAFile(t *testing.T) { // P12.3
	d, j := over(t)
	answers(t, "Checkpoint", j.Checkpoint(parts("s", "")), api.OK)
	strokes(t, "Checkpoint", d, 4)
	holds(t, "Checkpoint", j, `[["s" ""]] before 2`, false)
	files(t, "Checkpoint", d, "j", rec(1, "s", ""))
	answers(t, "Checkpoint of nothing", j.Checkpoint(nil), api.OK)
	holds(t, "Checkpoint of nothing", j, `[[]] before 3`, false)
	files(t, "Checkpoint of nothing", d, "j", rec(2))
}

func TestCheckpointWithASecondFile(t *testing.T) { // P12.3: whatever lies there is removed
	for _, left := range []string{"", "left", rec(2, "s"), rec(9, "x"), strings.Repeat("x", 900)} {
		d, j := over(t, "j", rec(1, "a"), "j.new", left)
		answers(t, "Add", j.Add(parts("b")), api.OK)
		files(t, "Add", d, "j", rec(1, "a")+rec(2, "b"), "j.new", left)
		n := d.Strokes()
		answers(t, "Checkpoint", j.Checkpoint(parts("s")), api.OK)
		strokes(t, "Checkpoint", d, n+5)
		files(t, "Checkpoint", d, "j", rec(3, "s"))
		answers(t, "Checkpoint again", j.Checkpoint(parts("t")), api.OK)
		strokes(t, "Checkpoint again", d, n+9)
	}
}

func TestSyncNamesTillTheFirstOK(t *testing.T) { // P12.2: and from then on no more
	for first, begin := range calls() {
		d, j := over(t, "j", rec(1, "a")+"torn")
		d.Plan(api.Plan{FullFrom: 1, FullTo: 2})
		answers(t, "too long", j.Add(make([][]byte, api.MaxParts+1)), api.ErrJournalLong)
		answers(t, "full", j.Add(parts("b")), api.ErrDiskFull) // Cut, Append
		strokes(t, "full", d, 2)
		d.Plan(api.Plan{FullFrom: 1, FullTo: 1})
		answers(t, "full", j.Checkpoint(parts("b")), api.ErrDiskFull)
		strokes(t, "full", d, 3)
		answers(t, first, begin(j, parts("b")), api.OK)
		want := map[string]int{"Add": 6, "Checkpoint": 7}[first]
		strokes(t, first, d, want)
		for range 3 {
			want += 2
			answers(t, "Add", j.Add(parts("c")), api.OK)
			strokes(t, "Add behind an OK of "+first, d, want)
		}
		d.Plan(api.Plan{FullFrom: 1, FullTo: 1})
		answers(t, "full", j.Add(parts("d")), api.ErrDiskFull)
		answers(t, "Add", j.Add(parts("d")), api.OK)
		strokes(t, "Add behind a refusal", d, want+3)
		k := opened(t, d, "j")
		answers(t, "Add", k.Add(nil), api.OK)
		strokes(t, "Add of one that is opened anew", d, want+6)
	}
}

func TestFullAtEachStroke(t *testing.T) { // P12.2, P12.3
	const was = `[["a"]] before 2`
	for name, ask := range calls() {
		for _, torn := range []string{"", "torn"} {
			for _, second := range [][]string{nil, {"j.new", "left"}} {
				for at := 1; at <= 7; at++ {
					what := fmt.Sprintf("%s, %q behind, second %v, full at %d", name, torn, second, at)
					d, j := over(t, append([]string{"j", rec(1, "a") + torn}, second...)...)
					d.Plan(api.Plan{FullFrom: at, FullTo: at})
					appends := 1 // the stroke of the Append
					if name == "Add" && torn != "" || name == "Checkpoint" && second != nil {
						appends = 2
					}
					e := ask(j, parts("z"))
					if at != appends {
						answers(t, what, e, api.OK)
						continue
					}
					answers(t, what, e, api.ErrDiskFull)
					strokes(t, what, d, at)
					isTorn := torn != "" && name == "Checkpoint"
					holds(t, what, j, was, isTorn)
					file, _ := d.Read("j")
					if left := rec(1, "a") + map[bool]string{true: torn}[isTorn]; string(file) != left {
						t.Errorf("%s: the file is %x", what, file)
					}
					if _, e := d.Size("j.new"); (e == api.OK) != (name == "Add" && second != nil) {
						t.Errorf("%s: Size of the second file answers %d", what, e)
					}
					holds(t, what+", opened", opened(t, d, "j"), was, isTorn)
					again(t, what, d, j)
				}
			}
		}
	}
}

// again asks a journal that was refused for an Add and a Checkpoint.
func again(t *testing.T, what string, d *disk.Disk, j *Journal) {
	t.Helper()
	answers(t, what+": Add again", j.Add(parts("y")), api.OK)
	holds(t, what+": Add again", j, `[["a"] ["y"]] before 3`, false)
	for _, picks := range [][]int{nil, {1, 1, 1, 1}, {-1, -1, -1}} {
		_, k := crashed(t, d, picks...)
		holds(t, what+": Add again, opened", k, `[["a"] ["y"]] before 3`, false)
	}
	answers(t, what+": Checkpoint again", j.Checkpoint(parts("y")), api.OK)
	holds(t, what+": Checkpoint again", j, `[["y"]] before 4`, false)
	_, k := crashed(t, d)
	holds(t, what+": Checkpoint again, opened", k, `[["y"]] before 4`, false)
}

func TestWithoutRoom(t *testing.T) { // P12.2, P12.3: of real room
	d := loaded(t, 52+51+52, nil)
	j := opened(t, d, "j")
	answers(t, "Add", j.Add(parts("a")), api.OK)
	answers(t, "Checkpoint", j.Checkpoint(parts("b")), api.OK) // both files have room
	for range 3 {
		answers(t, "Checkpoint without room", j.Checkpoint([][]byte{make([]byte, 53)}), api.ErrDiskFull)
		answers(t, "Add without room", j.Add([][]byte{make([]byte, 53)}), api.ErrDiskFull)
		holds(t, "without room", j, `[["b"]] before 3`, false)
	}
	files(t, "without room", d, "j", rec(2, "b"))
	answers(t, "Add that just has room", j.Add([][]byte{make([]byte, 52)}), api.OK)
	answers(t, "Add of the least", j.Add(nil), api.ErrDiskFull)
}

func TestTooManyFiles(t *testing.T) { // the disk's errors go through
	var img []api.FileBytes
	for i := range api.MaxDisk {
		img = append(img, api.FileBytes{Name: fmt.Sprintf("f%02d", i)})
	}
	d := loaded(t, room, img)
	j := opened(t, d, "j")
	for name, ask := range calls() {
		for range 2 {
			answers(t, name, ask(j, parts("a")), api.ErrDiskName)
			holds(t, name, j, `[] before 1`, false)
		}
	}
	strokes(t, "refused", d, 0)
	answers(t, "Remove", d.Remove("f00"), api.OK)
	answers(t, "Add", j.Add(parts("a")), api.OK)
	strokes(t, "Add", d, 4)
	answers(t, "Checkpoint", j.Checkpoint(parts("s")), api.ErrDiskName)
	holds(t, "Checkpoint", j, `[["a"]] before 2`, false)
	answers(t, "Add", j.Add(parts("b")), api.OK)
	holds(t, "Add", j, `[["a"] ["b"]] before 3`, false)
}

func TestOff(t *testing.T) { // P12.2: every call behind a power-off
	tooMany := make([][]byte, api.MaxParts+1)
	for name, ask := range calls() {
		for at := 1; at <= 4; at++ {
			d, j := over(t, "j", rec(api.MaxSeq-1, "a")+"torn")
			d.Plan(api.Plan{Off: at})
			answers(t, name+" that is too long", ask(j, tooMany), api.ErrJournalLong)
			answers(t, name, ask(j, parts("z")), api.ErrDiskOff)
			was, torn := fmt.Sprintf(`[["a"]] before %d`, uint64(api.MaxSeq)), j.Torn()
			if torn != (name == "Checkpoint" || at == 1) {
				t.Errorf("%s, off at %d: torn %v", name, at, torn)
			}
			for range 2 {
				for again, ask := range calls() {
					answers(t, again+" behind "+name, ask(j, parts("z")), api.ErrJournalOff)
					answers(t, again+" that is too long behind "+name, ask(j, tooMany), api.ErrJournalOff)
					answers(t, again+" of no parts behind "+name, ask(j, nil), api.ErrJournalOff)
				}
				holds(t, name, j, was, torn)
			}
			strokes(t, name, d, at)
			if k, e := Open(d, "j"); k != nil || e != api.ErrDiskOff {
				t.Errorf("Open: %v, %d", k, e)
			}
		}
	}
}

func TestOffIsMetFirst(t *testing.T) { // P12.2: the power went off at somebody else's call
	for name, ask := range calls() {
		for _, words := range [][]string{nil, {"j", rec(1, "a")}, {"j", rec(1, "a") + "torn", "j.new", "left"}} {
			d, j := over(t, words...)
			was, torn := state(j), j.Torn()
			d.Plan(api.Plan{Off: 1})
			answers(t, "SyncNames", d.SyncNames(), api.ErrDiskOff)
			answers(t, name+" that is too long", ask(j, make([][]byte, api.MaxParts+1)), api.ErrJournalLong)
			answers(t, name, ask(j, parts("z")), api.ErrDiskOff)
			answers(t, name+" that is too long", ask(j, make([][]byte, api.MaxParts+1)), api.ErrJournalOff)
			answers(t, name, ask(j, parts("z")), api.ErrJournalOff)
			holds(t, name, j, was, torn)
			strokes(t, name, d, 1)
		}
	}
}

func TestTorn(t *testing.T) { // P12.4
	_, j := over(t, "j", rec(1, "a")+"torn")
	answers(t, "Checkpoint", j.Checkpoint(parts("s")), api.OK)
	holds(t, "Checkpoint", j, `[["s"]] before 3`, false)
	answers(t, "Add", j.Add(parts("b")), api.OK)
	holds(t, "Add", j, `[["s"] ["b"]] before 4`, false)

	d, j := over(t, "j", rec(1, "a")+"torn")
	d.Plan(api.Plan{FullFrom: 1, FullTo: 3})
	answers(t, "a Checkpoint that is refused", j.Checkpoint(parts("s")), api.ErrDiskFull)
	holds(t, "a Checkpoint that is refused", j, `[["a"]] before 2`, true)
	answers(t, "an Add behind its Cut", j.Add(parts("s")), api.ErrDiskFull)
	holds(t, "an Add behind its Cut", j, `[["a"]] before 2`, false)
	strokes(t, "an Add behind its Cut", d, 3)
	_, k := crashed(t, d) // the Cut is not safe yet
	holds(t, "opened", k, `[["a"]] before 2`, true)
	_, k = crashed(t, d, 0, 1)
	holds(t, "opened, the Cut kept", k, `[["a"]] before 2`, false)
	answers(t, "Add", j.Add(parts("b")), api.OK)
	strokes(t, "no second Cut", d, 6)
	files(t, "Add", d, "j", rec(1, "a")+rec(2, "b"))
}

func TestWorkBehindACheckpoint(t *testing.T) { // P12.2, P12.3, P12.4: one long row of calls
	d, j := over(t)
	var want, file string
	next := uint64(1)
	for i := range 60 {
		text := fmt.Sprint(i)
		one := rec(next, text, "")
		if i%7 == 6 {
			answers(t, "Checkpoint", j.Checkpoint(parts(text, "")), api.OK)
			want, file = fmt.Sprintf(`["%s" ""]`, text), one
		} else {
			answers(t, "Add", j.Add(parts(text, "")), api.OK)
			want, file = strings.TrimSpace(want+fmt.Sprintf(` ["%s" ""]`, text)), file+one
		}
		next++
		holds(t, "row", j, fmt.Sprintf("[%s] before %d", want, next), false)
		files(t, "row", d, "j", file)
		if i%5 == 0 {
			j = opened(t, d, "j")
			holds(t, "opened", j, fmt.Sprintf("[%s] before %d", want, next), false)
		}
	}
}
