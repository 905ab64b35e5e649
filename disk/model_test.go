package disk

import (
	"fmt"
	"maps"
	"math"
	"math/rand"
	"slices"
	"testing"

	"satchel/api"
)

// plainUnit is one unit: a byte that was appended or, if cut, a cut to a length.
type plainUnit struct {
	isCut  bool
	length int
	b      byte
}

type plainFile struct {
	safe  string
	units []plainUnit
}

// after carries out the first n units on the safe bytes.
func (f *plainFile) after(n int) string {
	s := f.safe
	for _, u := range f.units[:n] {
		if u.isCut {
			s = s[:u.length]
		} else {
			s += string([]byte{u.b})
		}
	}
	return s
}

func (f *plainFile) seen() string { return f.after(len(f.units)) }

// plainDisk is the chapter's words; what is seen is worked out anew each time.
type plainDisk struct {
	room, strokes, number int
	safe                  map[string]*plainFile
	changes               []func(map[string]*plainFile)
	plan                  api.Plan
	off                   bool
}

func (d *plainDisk) after(n int) map[string]*plainFile {
	names := maps.Clone(d.safe)
	for _, c := range d.changes[:n] {
		c(names)
	}
	return names
}

func (d *plainDisk) seen() map[string]*plainFile { return d.after(len(d.changes)) }

func plainName(name string) bool {
	for _, r := range name {
		if !slices.Contains([]rune("abcdefghijklmnopqrstuvwxyz0123456789.-_"), r) {
			return false
		}
	}
	return len(name) > 0 && len(name) < 65
}

// refusal tells the error of a call that wants a file of that name.
func (d *plainDisk) refusal(name string) api.Errno {
	switch {
	case d.off:
		return api.ErrDiskOff
	case !plainName(name):
		return api.ErrDiskName
	case d.seen()[name] == nil:
		return api.ErrDiskNone
	}
	return api.OK
}

func (d *plainDisk) stroke() api.Errno {
	d.strokes++
	d.number++
	if d.plan.Off >= 1 && d.number == d.plan.Off {
		d.off = true
		return api.ErrDiskOff
	}
	return api.OK
}

func (d *plainDisk) Append(name string, b []byte) api.Errno {
	e := d.refusal(name)
	if e == api.ErrDiskOff || e == api.ErrDiskName {
		return e
	}
	if e == api.ErrDiskNone && len(d.seen()) == 64 {
		return api.ErrDiskName
	}
	isFull := d.plan.FullFrom >= 1 && d.number+1 >= d.plan.FullFrom && d.number+1 <= d.plan.FullTo
	sum := len(b)
	for _, f := range d.seen() {
		sum += len(f.seen())
	}
	answer := d.stroke()
	if isFull || sum > d.room {
		if answer == api.OK {
			return api.ErrDiskFull
		}
		return answer
	}
	if e == api.ErrDiskNone {
		made := &plainFile{}
		d.changes = append(d.changes, func(names map[string]*plainFile) { names[name] = made })
	}
	f := d.seen()[name]
	for _, one := range b {
		f.units = append(f.units, plainUnit{b: one})
	}
	return answer
}

func (d *plainDisk) Cut(name string, n int) api.Errno {
	if e := d.refusal(name); e != api.OK {
		return e
	}
	f := d.seen()[name]
	length := len(f.seen())
	if n < 0 || n > length {
		return api.ErrDiskCut
	}
	if n < length {
		f.units = append(f.units, plainUnit{isCut: true, length: n})
	}
	return d.stroke()
}

func (d *plainDisk) Sync(name string) api.Errno {
	if e := d.refusal(name); e != api.OK {
		return e
	}
	e := d.stroke()
	if e == api.OK {
		f := d.seen()[name]
		f.safe, f.units = f.seen(), nil
	}
	return e
}

func (d *plainDisk) SyncNames() api.Errno {
	if d.off {
		return api.ErrDiskOff
	}
	e := d.stroke()
	if e == api.OK {
		d.safe, d.changes = d.seen(), nil
	}
	return e
}

func (d *plainDisk) Rename(from, to string) api.Errno {
	e := d.refusal(from)
	if e != api.ErrDiskOff && !plainName(to) {
		e = api.ErrDiskName
	}
	if e != api.OK {
		return e
	}
	if from != to {
		d.changes = append(d.changes, func(names map[string]*plainFile) {
			names[to] = names[from]
			delete(names, from)
		})
	}
	return d.stroke()
}

func (d *plainDisk) Remove(name string) api.Errno {
	if e := d.refusal(name); e != api.OK {
		return e
	}
	d.changes = append(d.changes, func(names map[string]*plainFile) { delete(names, name) })
	return d.stroke()
}

func (d *plainDisk) Plan(p api.Plan) {
	if !d.off {
		d.plan, d.number = p, 0
	}
}

// plainPick tells which of m the pick at a place says, by adding or taking away m.
func plainPick(picks []int, place, m int) int {
	if place >= len(picks) {
		return 0
	}
	p := picks[place] / m * m
	for p = picks[place] - p; p < 0; p += m {
	}
	return p
}

func (d *plainDisk) Crash(picks []int) []api.FileBytes {
	left := d.after(plainPick(picks, 0, len(d.changes)+1))
	var img []api.FileBytes
	for _, name := range slices.Sorted(maps.Keys(left)) {
		f := left[name]
		n := plainPick(picks, len(img)+1, len(f.units)+1)
		img = append(img, api.FileBytes{Name: name, Data: []byte(f.after(n))})
	}
	return img
}

// caller is what both have.
type caller interface {
	Append(name string, b []byte) api.Errno
	Cut(name string, n int) api.Errno
	Sync(name string) api.Errno
	SyncNames() api.Errno
	Rename(from, to string) api.Errno
	Remove(name string) api.Errno
	Plan(p api.Plan)
	Crash(picks []int) []api.FileBytes
}

var someNames = []string{"a", "b", "c", "d", "e", "a.new", "A", ""}

// drawCall draws a call, to be made on both.
func drawCall(r *rand.Rand) (string, func(c caller) api.Errno) {
	draw := func() string { return someNames[min(r.Intn(30), r.Intn(len(someNames)))] }
	name, other, n := draw(), draw(), r.Intn(14)-2
	switch r.Intn(16) {
	case 0, 1:
		return fmt.Sprintf("Cut(%q, %d)", name, n), func(c caller) api.Errno { return c.Cut(name, n) }
	case 2, 3:
		return fmt.Sprintf("Sync(%q)", name), func(c caller) api.Errno { return c.Sync(name) }
	case 4:
		return "SyncNames()", caller.SyncNames
	case 5, 6:
		return fmt.Sprintf("Rename(%q, %q)", name, other), func(c caller) api.Errno { return c.Rename(name, other) }
	case 7:
		return fmt.Sprintf("Remove(%q)", name), func(c caller) api.Errno { return c.Remove(name) }
	case 8:
		p := api.Plan{FullFrom: r.Intn(8) - 2, FullTo: r.Intn(10) - 2}
		if r.Intn(3) == 0 {
			p.Off = r.Intn(12) - 2
		}
		return fmt.Sprintf("Plan(%v)", p), func(c caller) api.Errno { c.Plan(p); return api.OK }
	}
	b := make([]byte, r.Intn(9))
	r.Read(b)
	return fmt.Sprintf("Append(%q, %x)", name, b), func(c caller) api.Errno { return c.Append(name, b) }
}

func drawPicks(r *rand.Rand) []int {
	picks := make([]int, r.Intn(9))
	for i := range picks {
		switch r.Intn(5) {
		case 0:
			picks[i] = -1
		case 1:
			picks[i] = r.Int()
		case 2:
			picks[i] = []int{math.MinInt, math.MaxInt, -r.Int()}[r.Intn(3)]
		default:
			picks[i] = r.Intn(40) - 10
		}
	}
	return picks
}

// agree holds all that a disk tells against the model.
func agree(t *testing.T, d *Disk, m *plainDisk, r *rand.Rand) bool {
	t.Helper()
	list, e := d.List()
	if m.off {
		if list != nil || e != api.ErrDiskOff {
			t.Errorf("List with the power off: %q, %d", list, e)
		}
	} else if want := slices.Sorted(maps.Keys(m.seen())); e != api.OK || !slices.Equal(list, want) {
		t.Errorf("List: %q, %d, want %q", list, e, want)
	}
	for _, name := range someNames {
		want, text := m.refusal(name), ""
		if want == api.OK {
			text = m.seen()[name].seen()
		}
		if b, e := d.Read(name); e != want || string(b) != text {
			t.Errorf("Read(%q): %x, %d, want %x, %d", name, b, e, text, want)
		}
		if n, e := d.Size(name); e != want || n != len(text) {
			t.Errorf("Size(%q): %d, %d, want %d, %d", name, n, e, len(text), want)
		}
	}
	if d.Strokes() != m.strokes || d.Room() != m.room {
		t.Errorf("Strokes %d, Room %d, want %d, %d", d.Strokes(), d.Room(), m.strokes, m.room)
	}
	for range 3 {
		picks := drawPicks(r)
		if got, want := told(d.Crash(picks)), told(m.Crash(picks)); got != want {
			t.Errorf("Crash(%d): %q, want %q", picks, got, want)
		}
	}
	return !t.Failed()
}

func TestDrawnCalls(t *testing.T) { // all promises: calls that are drawn, held against the model
	for seed := range int64(600) {
		r := rand.New(rand.NewSource(seed))
		room := []int{0, 1, 10, 30, 200}[r.Intn(5)]
		d, m := fresh(t, room), &plainDisk{room: room, safe: map[string]*plainFile{}}
		var done []string
		for range 80 {
			what, call := drawCall(r)
			done = append(done, what)
			got, want := call(d), call(m)
			if got != want {
				t.Errorf("%s answers %d, want %d", what, got, want)
			}
			if !agree(t, d, m, r) {
				t.Fatalf("seed %d, room %d, behind %q", seed, room, done)
			}
			if m.off && r.Intn(4) == 0 { // on with what is left
				img := m.Crash(drawPicks(r))
				room = 200
				d, m = loaded(t, room), &plainDisk{room: room, safe: map[string]*plainFile{}}
				if next, e := Load(img, room); e == api.OK {
					d = next
					for _, f := range img {
						m.safe[f.Name] = &plainFile{safe: string(f.Data)}
					}
				}
				done = append(done, "Load("+told(img)+")")
			}
		}
	}
}
