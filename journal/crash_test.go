package journal

import (
	"fmt"
	"testing"

	"satchel/api"
	"satchel/disk"
)

// images tells all that a crash of a disk with files j and j.new can leave, each once; units is no fewer than the units of a file.
func images(d *disk.Disk, units int) [][]api.FileBytes {
	var list [][]api.FileBytes
	met := map[string]int{}
	for names := range 4 { // more name changes than three a Checkpoint does not make
		for one := range units + 1 {
			for two := range units + 1 {
				img := d.Crash([]int{names, one, two})
				met[told(img)]++
				if met[told(img)] == 1 {
					list = append(list, img)
				}
				if len(img) < 2 {
					break
				}
			}
		}
	}
	return list
}

// begun is a disk with a journal on it, and calls ahead of the one that a crash meets.
type begun struct {
	name  string
	words []string
	ahead func(t *testing.T, d *disk.Disk, j *Journal)
}

func begunOnes() []begun {
	nothing := func(t *testing.T, d *disk.Disk, j *Journal) {}
	return []begun{
		{"new", nil, nothing},
		{"empty", []string{"j", ""}, nothing},
		{"old", []string{"j", rec(4, "a") + rec(5, "b")}, nothing},
		{"torn", []string{"j", rec(4, "a") + rec(5, "b")[:30]}, nothing},
		{"garbage", []string{"j", "garbage"}, nothing},
		{"a second file", []string{"j", rec(4, "a"), "j.new", rec(5, "left")}, nothing},
		{"a second file alone", []string{"j.new", rec(5, "left")}, nothing},
		{"torn, a second file", []string{"j", rec(4, "a") + "torn", "j.new", "left"}, nothing},
		{"behind an Add", nil, func(t *testing.T, d *disk.Disk, j *Journal) {
			answers(t, "Add", j.Add(parts("a")), api.OK)
		}},
		{"behind a Checkpoint", []string{"j", rec(4, "a")}, func(t *testing.T, d *disk.Disk, j *Journal) {
			answers(t, "Checkpoint", j.Checkpoint(parts("a")), api.OK)
		}},
		{"behind a Cut", []string{"j", rec(4, "a") + rec(5, "bb")[:40]}, func(t *testing.T, d *disk.Disk, j *Journal) {
			d.Plan(api.Plan{FullFrom: 2, FullTo: 2})
			answers(t, "Add", j.Add(parts("b")), api.ErrDiskFull)
		}},
		{"behind a Remove", []string{"j", rec(4, "a") + "torn", "j.new", "left"}, func(t *testing.T, d *disk.Disk, j *Journal) {
			d.Plan(api.Plan{FullFrom: 2, FullTo: 2})
			answers(t, "Checkpoint", j.Checkpoint(parts("b")), api.ErrDiskFull)
		}},
		{"behind a Cut and a Remove", []string{"j", rec(4, "a") + "torn", "j.new", "left"}, func(t *testing.T, d *disk.Disk, j *Journal) {
			d.Plan(api.Plan{FullFrom: 2, FullTo: 4})
			answers(t, "Add", j.Add(parts("b")), api.ErrDiskFull)
			answers(t, "Checkpoint", j.Checkpoint(parts("b")), api.ErrDiskFull)
		}},
	}
}

// next tells what an Add and a Checkpoint of the part s leave of a journal.
func next(j *Journal) map[string]string {
	s := parts("s")
	return map[string]string{
		"Add":        fmt.Sprintf("%q before %d", append(j.All(), s), j.Next()+1),
		"Checkpoint": fmt.Sprintf("%q before %d", [][][]byte{s}, j.Next()+1),
	}
}

func TestCrashAtEachStroke(t *testing.T) { // P12.5
	for _, b := range begunOnes() {
		for name, ask := range calls() {
			for off := 1; ; off++ {
				d, j := over(t, b.words...)
				b.ahead(t, d, j)
				was, becomes := state(j), next(j)[name]
				d.Plan(api.Plan{Off: off})
				e := ask(j, parts("s"))
				met := map[string]int{}
				for _, img := range images(d, 60) {
					got := leftBy(t, img)
					met[got]++
					if got != becomes && (e == api.OK || got != was) {
						t.Fatalf("%s, %s, off at %d: %s is left of %s", b.name, name, off, got, told(img))
					}
				}
				if e == api.OK {
					break
				}
				answers(t, b.name+", "+name, e, api.ErrDiskOff)
				if state(j) != was || met[was] == 0 && off == 1 {
					t.Errorf("%s, %s, off at %d: %s, %v", b.name, name, off, state(j), met)
				}
			}
		}
	}
}

// leftBy tells the state of the journal over an image, having held that opening it again, on a copy, and behind a second crash tells the same, and that it goes on from there.
func leftBy(t *testing.T, img []api.FileBytes) string {
	t.Helper()
	d := loaded(t, room, img)
	j := opened(t, d, "j")
	was, torn := state(j), j.Torn()
	holds(t, "opened again", opened(t, d, "j"), was, torn)
	strokes(t, "opened", d, 0)
	_, k := crashed(t, d, 1, 2, 3)
	holds(t, "opened on a copy", k, was, torn)
	for name, becomes := range next(j) {
		d := loaded(t, room, img)
		k := opened(t, d, "j")
		answers(t, name, calls()[name](k, parts("s")), api.OK)
		holds(t, name+" behind a crash", k, becomes, false)
		_, k = crashed(t, d)
		holds(t, name+" behind a crash, and a second one", k, becomes, false)
	}
	return was
}

func TestSecondCrashMeetsACall(t *testing.T) { // P12.5: the power goes off again and again
	for _, first := range []string{"Add", "Checkpoint"} {
		for off := 1; off <= 4; off++ {
			d, j := over(t, "j", rec(1, "a")+rec(2, "b")[:20], "j.new", "left")
			was, becomes := state(j), next(j)[first]
			d.Plan(api.Plan{Off: off})
			answers(t, first, calls()[first](j, parts("s")), api.ErrDiskOff)
			for _, img := range images(d, 55) {
				for name, ask := range calls() {
					for again := 1; again <= 5; again++ {
						d := loaded(t, room, img)
						j := opened(t, d, "j")
						left := state(j)
						if left != was && left != becomes {
							t.Fatalf("%s, off at %d: %s", first, off, left)
						}
						then := next(j)[name]
						d.Plan(api.Plan{Off: again})
						e := ask(j, parts("s"))
						for _, picks := range [][]int{nil, {1}, {2, 30, 30}, {-1, 30, 30}, {-1, -1, -1}, {-2, -2, -1}} {
							_, k := crashed(t, d, picks...)
							if got := state(k); got != then && (e == api.OK || got != left) {
								t.Fatalf("%s, off at %d, then %s, off at %d, picks %v: %s", first, off, name, again, picks, got)
							}
						}
					}
				}
			}
		}
	}
}

func TestOKLasts(t *testing.T) { // P12.5: whatever comes behind an OK, a full disk or a power-off
	for _, b := range begunOnes() {
		for name, ask := range calls() {
			d, j := over(t, b.words...)
			b.ahead(t, d, j)
			becomes := next(j)[name]
			answers(t, name, ask(j, parts("s")), api.OK)
			d.Plan(api.Plan{FullFrom: 1, FullTo: 99})
			answers(t, "Add without room", j.Add(parts("x")), api.ErrDiskFull)
			answers(t, "Checkpoint without room", j.Checkpoint(parts("x")), api.ErrDiskFull)
			for _, img := range images(d, 60) {
				holds(t, b.name+", "+name, opened(t, loaded(t, room, img), "j"), becomes, false)
			}
		}
	}
}
