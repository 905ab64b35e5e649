package disk

import (
	"fmt"
	"math"
	"testing"

	"satchel/api"
)

func TestStrokes(t *testing.T) { // P11.9, 'What a disk is'
	d := loaded(t, 5, "a=x", "b=y")
	steps := []struct {
		what   string
		call   func() api.Errno
		answer api.Errno
		stroke int
	}{
		{"Append", func() api.Errno { return d.Append("a", []byte("1")) }, api.OK, 1},
		{"Append of nothing", func() api.Errno { return d.Append("a", nil) }, api.OK, 1},
		{"Append without room", func() api.Errno { return d.Append("a", []byte("12345")) }, api.ErrDiskFull, 1},
		{"Append without room, to a new one", func() api.Errno { return d.Append("c", []byte("12345")) }, api.ErrDiskFull, 1},
		{"Append to a bad name", func() api.Errno { return d.Append("A", nil) }, api.ErrDiskName, 0},
		{"Cut", func() api.Errno { return d.Cut("a", 1) }, api.OK, 1},
		{"Cut of nothing", func() api.Errno { return d.Cut("a", 1) }, api.OK, 1},
		{"Cut too long", func() api.Errno { return d.Cut("a", 2) }, api.ErrDiskCut, 0},
		{"Cut of none", func() api.Errno { return d.Cut("c", 0) }, api.ErrDiskNone, 0},
		{"Cut of a bad name", func() api.Errno { return d.Cut("", 0) }, api.ErrDiskName, 0},
		{"Sync", func() api.Errno { return d.Sync("a") }, api.OK, 1},
		{"Sync of what is safe", func() api.Errno { return d.Sync("a") }, api.OK, 1},
		{"Sync of none", func() api.Errno { return d.Sync("c") }, api.ErrDiskNone, 0},
		{"Sync of a bad name", func() api.Errno { return d.Sync("/") }, api.ErrDiskName, 0},
		{"SyncNames", d.SyncNames, api.OK, 1},
		{"SyncNames again", d.SyncNames, api.OK, 1},
		{"Rename", func() api.Errno { return d.Rename("a", "c") }, api.OK, 1},
		{"Rename onto itself", func() api.Errno { return d.Rename("c", "c") }, api.OK, 1},
		{"Rename of none", func() api.Errno { return d.Rename("a", "c") }, api.ErrDiskNone, 0},
		{"Rename to a bad name", func() api.Errno { return d.Rename("c", "C") }, api.ErrDiskName, 0},
		{"Rename of a bad name", func() api.Errno { return d.Rename("C", "c") }, api.ErrDiskName, 0},
		{"Remove", func() api.Errno { return d.Remove("b") }, api.OK, 1},
		{"Remove of none", func() api.Errno { return d.Remove("b") }, api.ErrDiskNone, 0},
		{"Remove of a bad name", func() api.Errno { return d.Remove("B") }, api.ErrDiskName, 0},
	}
	want := 0
	for _, s := range steps {
		answers(t, s.what, s.call(), s.answer)
		want += s.stroke
		if d.Strokes() != want {
			t.Fatalf("%s: %d strokes, want %d", s.what, d.Strokes(), want)
		}
		seenOf(t, d)
		d.Crash([]int{1, 1})
		d.Room()
		strokes(t, d, want)
	}
}

func TestPlanCountsAnew(t *testing.T) { // P11.9, P11.10
	d := fresh(t, 100)
	put(t, d, "a", "1")
	d.Plan(api.Plan{Off: 5, FullFrom: 2, FullTo: 3})
	put(t, d, "a", "2")
	answers(t, "a refused name is no stroke", d.Append("A", nil), api.ErrDiskName)
	answers(t, "a refused length is none", d.Cut("a", 9), api.ErrDiskCut)
	answers(t, "a refused file is none", d.Sync("b"), api.ErrDiskNone)
	answers(t, "2 of 2 to 3", d.Append("a", []byte("3")), api.ErrDiskFull)
	strokes(t, d, 3)
	d.Plan(api.Plan{Off: 3, FullFrom: 2, FullTo: 2}) // the older one is forgotten
	strokes(t, d, 3)
	put(t, d, "a", "4")
	answers(t, "2 of 2 to 2", d.Append("a", []byte("5")), api.ErrDiskFull)
	answers(t, "at Off", d.Append("a", []byte("6")), api.ErrDiskOff)
	strokes(t, d, 6)
	crash(t, d, "a=1246", 1, 4)
}

func TestPlanIsForgotten(t *testing.T) { // P11.10
	d := fresh(t, 100)
	d.Plan(api.Plan{Off: 1, FullFrom: 1, FullTo: 9})
	d.Plan(api.Plan{})
	for range 12 {
		put(t, d, "a", "x")
	}
	d.Plan(api.Plan{Off: 2})
	must(t, d.SyncNames())
	d.Plan(api.Plan{Off: 2})
	must(t, d.SyncNames())
	answers(t, "the second", d.SyncNames(), api.ErrDiskOff)
}

func TestFull(t *testing.T) { // P11.10
	for _, c := range []struct{ from, to int }{
		{1, 1}, {1, 3}, {2, 2}, {2, 4}, {4, 4}, {5, 100}, {1, math.MaxInt}, {math.MaxInt, math.MaxInt},
		{0, 9}, {-1, 9}, {math.MinInt, math.MaxInt}, {0, 0}, {2, 1}, {3, 0}, {1, -1}, {3, math.MinInt},
	} {
		d := fresh(t, 100)
		put(t, d, "a", "0")
		d.Plan(api.Plan{FullFrom: c.from, FullTo: c.to})
		want := "0"
		for n := 1; n <= 6; n++ {
			name := fmt.Sprint("full from ", c.from, " to ", c.to, " at ", n)
			b := []byte{byte('0' + n)}
			if c.from >= 1 && c.from <= n && n <= c.to {
				answers(t, name, d.Append("a", b), api.ErrDiskFull)
			} else {
				answers(t, name, d.Append("a", b), api.OK)
				want += string(b)
			}
		}
		seen(t, d, "a="+want)
		strokes(t, d, 7)
	}
}

func TestFullIsOfAppendAlone(t *testing.T) { // P11.10
	d := loaded(t, 100, "a=xyz", "b")
	d.Plan(api.Plan{FullFrom: 1, FullTo: 100})
	must(t, d.Cut("a", 1))
	must(t, d.Sync("a"))
	must(t, d.Rename("a", "c"))
	must(t, d.Remove("b"))
	must(t, d.SyncNames())
	answers(t, "Append", d.Append("c", []byte("x")), api.ErrDiskFull)
	answers(t, "Append to a new one", d.Append("d", nil), api.ErrDiskFull)
	answers(t, "Append to a bad name", d.Append("D", nil), api.ErrDiskName)
	crash(t, d, "c=x", 1, 1)
	strokes(t, d, 7)
}

// isOff asks all that the power's being off says: that all calls say so and nothing changes.
func isOff(t *testing.T, what string, d *Disk) {
	t.Helper()
	image := told(d.Crash([]int{-1, -1, -1, -1}))
	least, strokes, room := told(d.Crash(nil)), d.Strokes(), d.Room()
	for _, name := range []string{"a", "b", "there", "none", "A", ""} {
		for call, f := range callsOf(d, name) {
			answers(t, what+": "+call+" of "+name, f(), api.ErrDiskOff)
		}
		answers(t, what+": Append of bytes", d.Append(name, []byte("more")), api.ErrDiskOff)
		answers(t, what+": Append without room", d.Append(name, make([]byte, 1000)), api.ErrDiskOff)
		answers(t, what+": Cut below 0", d.Cut(name, -1), api.ErrDiskOff)
		answers(t, what+": Cut above", d.Cut(name, 1000), api.ErrDiskOff)
		answers(t, what+": Rename", d.Rename(name, "b"), api.ErrDiskOff)
		answers(t, what+": Rename to a bad name", d.Rename(name, "B"), api.ErrDiskOff)
		if b, e := d.Read(name); b != nil || e != api.ErrDiskOff {
			t.Errorf("%s: Read: %q, %d", what, b, e)
		}
		if n, e := d.Size(name); n != 0 || e != api.ErrDiskOff {
			t.Errorf("%s: Size: %d, %d", what, n, e)
		}
	}
	answers(t, what+": SyncNames", d.SyncNames(), api.ErrDiskOff)
	if l, e := d.List(); l != nil || e != api.ErrDiskOff {
		t.Errorf("%s: List: %q, %d", what, l, e)
	}
	if now := told(d.Crash([]int{-1, -1, -1, -1})); now != image || told(d.Crash(nil)) != least {
		t.Errorf("%s: what is left has changed from %q to %q", what, image, now)
	}
	if d.Strokes() != strokes || d.Room() != room {
		t.Errorf("%s: Strokes %d, Room %d, were %d and %d", what, d.Strokes(), d.Room(), strokes, room)
	}
}

func TestOff(t *testing.T) { // P11.3, P11.10: at each kind of stroke
	for _, c := range []struct {
		what        string
		call        func(d *Disk) api.Errno
		least, most string // what is left, if nothing that is not safe is kept, and if all is
	}{
		{"Append", func(d *Disk) api.Errno { return d.Append("a", []byte("yz")) }, "a=wx b=1", "a=wx12yz b=1"},
		{"Append to a new file", func(d *Disk) api.Errno { return d.Append("c", []byte("yz")) }, "a=wx b=1", "a=wx12 b=1 c=yz"},
		{"Append of nothing", func(d *Disk) api.Errno { return d.Append("a", nil) }, "a=wx b=1", "a=wx12 b=1"},
		{"Append of nothing to a new file", func(d *Disk) api.Errno { return d.Append("c", nil) }, "a=wx b=1", "a=wx12 b=1 c="},
		{"Append that fills the room", func(d *Disk) api.Errno { return d.Append("a", []byte("12345")) }, "a=wx b=1", "a=wx1212345 b=1"},
		{"Append without room", func(d *Disk) api.Errno { return d.Append("a", []byte("123456")) }, "a=wx b=1", "a=wx12 b=1"},
		{"Append without room, to a new file", func(d *Disk) api.Errno { return d.Append("c", []byte("123456")) }, "a=wx b=1", "a=wx12 b=1"},
		{"Cut", func(d *Disk) api.Errno { return d.Cut("a", 1) }, "a=wx b=1", "a=w b=1"},
		{"Cut of nothing", func(d *Disk) api.Errno { return d.Cut("a", 4) }, "a=wx b=1", "a=wx12 b=1"},
		{"Sync", func(d *Disk) api.Errno { return d.Sync("a") }, "a=wx b=1", "a=wx12 b=1"},
		{"SyncNames", func(d *Disk) api.Errno { return d.SyncNames() }, "a=wx b=1", "a=wx12 b=1"},
		{"Rename", func(d *Disk) api.Errno { return d.Rename("a", "c") }, "a=wx b=1", "b=1 c=wx12"},
		{"Rename onto another", func(d *Disk) api.Errno { return d.Rename("a", "b") }, "a=wx b=1", "b=wx12"},
		{"Rename onto itself", func(d *Disk) api.Errno { return d.Rename("a", "a") }, "a=wx b=1", "a=wx12 b=1"},
		{"Remove", func(d *Disk) api.Errno { return d.Remove("a") }, "a=wx b=1", "b=1"},
	} {
		d := loaded(t, 10, "a=wx", "b=1")
		d.Plan(api.Plan{Off: 2})
		put(t, d, "a", "12")
		answers(t, "Cut above the length", d.Cut("a", 5), api.ErrDiskCut) // refused: no stroke, and the power stays on
		answers(t, "a bad name", d.Append("A", nil), api.ErrDiskName)
		answers(t, "a file that is not there", d.Remove("c"), api.ErrDiskNone)
		seen(t, d, "a=wx12 b=1")
		answers(t, c.what, c.call(d), api.ErrDiskOff)
		strokes(t, d, 2)
		crash(t, d, c.least)
		crash(t, d, c.most, -1, -1, -1, -1)
		isOff(t, c.what, d)
		d.Plan(api.Plan{}) // it stays off
		d.Plan(api.Plan{Off: 100})
		isOff(t, c.what, d)
		crash(t, d, c.least)
		crash(t, d, c.most, -1, -1, -1, -1)
	}
}

func TestOffAtNames(t *testing.T) { // P11.10: SyncNames makes nothing safe
	d := loaded(t, 10, "a=x")
	must(t, d.Rename("a", "b"))
	put(t, d, "c", "y")
	d.Plan(api.Plan{Off: 1})
	answers(t, "SyncNames", d.SyncNames(), api.ErrDiskOff)
	for p, want := range []string{"a=x", "b=x", "b=x c=", "a=x"} {
		crash(t, d, want, p)
	}
}

func TestOffAndFull(t *testing.T) { // P11.10
	for _, c := range []struct {
		from, to int
		want     string
	}{
		{1, 2, "a=x"}, {2, 2, "a=x1"}, {2, 9, "a=x1"}, {3, 9, "a=x12"}, {1, 1, "a=x2"}, {0, 9, "a=x12"}, {2, 1, "a=x12"},
	} {
		d := loaded(t, 10, "a=x")
		d.Plan(api.Plan{Off: 2, FullFrom: c.from, FullTo: c.to})
		d.Append("a", []byte("1"))
		answers(t, "at Off", d.Append("a", []byte("2")), api.ErrDiskOff)
		crash(t, d, c.want, -1, -1)
		isOff(t, "full and off", d)
	}
	for _, b := range [][]byte{nil, []byte("x")} { // no file is made by an Append that is refused
		d := fresh(t, 10)
		d.Plan(api.Plan{Off: 1, FullFrom: 1, FullTo: 1})
		answers(t, "at Off", d.Append("a", b), api.ErrDiskOff)
		crash(t, d, "", -1, -1)
		strokes(t, d, 1)
	}
}

func TestOffAtNoStroke(t *testing.T) { // P11.10
	for _, off := range []int{0, -1, -7, math.MinInt, math.MaxInt, 41} {
		d := fresh(t, 100)
		d.Append("a", nil)
		d.Plan(api.Plan{Off: off})
		for range 20 {
			put(t, d, "a", "x")
			must(t, d.SyncNames())
		}
		strokes(t, d, 41)
	}
}

func TestOffAtEachStroke(t *testing.T) { // P11.10
	for off := 1; off <= 20; off++ {
		d := fresh(t, 100)
		d.Plan(api.Plan{Off: off})
		for n := 1; n <= 20; n++ {
			want := api.OK
			if n >= off {
				want = api.ErrDiskOff
			}
			answers(t, fmt.Sprint("stroke ", n, " of ", off), d.Append("a", []byte("x")), want)
		}
		strokes(t, d, off)
		isOff(t, "behind", d)
	}
}
