package disk

import (
	"math"
	"strings"
	"testing"

	"satchel/api"
)

func TestAppend(t *testing.T) { // P11.4
	d := fresh(t, 6)
	put(t, d, "a", "xy")
	put(t, d, "b", "1")
	put(t, d, "a", "z")
	seen(t, d, "a=xyz b=1")
	answers(t, "one byte too many", d.Append("b", []byte("234")), api.ErrDiskFull)
	answers(t, "many too many", d.Append("c", make([]byte, 1000)), api.ErrDiskFull)
	seen(t, d, "a=xyz b=1")
	crash(t, d, "a=xyz b=1", -1, -1, -1)
	put(t, d, "b", "23") // just fills the room
	seen(t, d, "a=xyz b=123")
	answers(t, "one more", d.Append("a", []byte("!")), api.ErrDiskFull)
	answers(t, "one more, to a new file", d.Append("c", []byte("!")), api.ErrDiskFull)
	put(t, d, "a", "")
	put(t, d, "c", "")
	seen(t, d, "a=xyz b=123 c=")
	strokes(t, d, 10)
}

func TestAppendIsAUnitEach(t *testing.T) { // P11.4, P11.11
	d := loaded(t, 100, "a=0")
	put(t, d, "a", "12")
	put(t, d, "a", "")
	put(t, d, "a", "3")
	for p, want := range []string{"0", "01", "012", "0123", "0", "01"} {
		crash(t, d, "a="+want, 5, p)
	}
}

func TestAppendOfNothing(t *testing.T) { // P11.4
	d := loaded(t, 3, "a=xyz")
	put(t, d, "a", "") // the file is there: no change, but a stroke
	strokes(t, d, 1)
	crash(t, d, "a=xyz", 1, 1)
	must(t, d.Append("b", nil))
	must(t, d.Append("b", []byte{}))
	strokes(t, d, 3)
	seen(t, d, "a=xyz b=")
	crash(t, d, "a=xyz", 2)
	crash(t, d, "a=xyz b=", 1)
	crash(t, d, "a=xyz b=", 1, 1, 1)
	d.Plan(api.Plan{FullFrom: 1, FullTo: 2})
	answers(t, "to one that is there", d.Append("a", nil), api.ErrDiskFull)
	answers(t, "to one that is not", d.Append("c", nil), api.ErrDiskFull)
	seen(t, d, "a=xyz b=")
	put(t, d, "c", "")
	seen(t, d, "a=xyz b= c=")
	strokes(t, d, 6)
}

func TestRoomIsOfWhatIsSeen(t *testing.T) { // P11.1, P11.4
	d := loaded(t, 10, "a=12345", "b=67890")
	answers(t, "a full disk", d.Append("c", []byte("x")), api.ErrDiskFull)
	must(t, d.Cut("a", 2))
	answers(t, "one too many", d.Append("c", []byte("xyzw")), api.ErrDiskFull)
	put(t, d, "c", "xyz")
	must(t, d.Remove("b"))
	answers(t, "one too many", d.Append("c", []byte("uvwxyz")), api.ErrDiskFull)
	put(t, d, "c", "uvwxy")
	must(t, d.Rename("c", "a")) // what stood there is not seen any more
	answers(t, "one too many", d.Append("d", []byte("xyz")), api.ErrDiskFull)
	put(t, d, "d", "xy")
	seen(t, d, "a=xyzuvwxy d=xy")
	must(t, d.Sync("a"))
	must(t, d.Sync("d"))
	must(t, d.SyncNames())
	answers(t, "behind Sync", d.Append("d", []byte("x")), api.ErrDiskFull)
	seen(t, d, "a=xyzuvwxy d=xy")
}

// full tells a disk with MaxDisk files.
func full(t *testing.T) *Disk {
	t.Helper()
	d := fresh(t, 1000)
	for _, f := range numbered(api.MaxDisk) {
		must(t, d.Append(f.Name, f.Data))
	}
	return d
}

func TestMostFiles(t *testing.T) { // P11.4
	d := full(t)
	strokes(t, d, api.MaxDisk)
	for _, b := range []string{"", "x", strings.Repeat("x", 2000)} {
		answers(t, "another file", d.Append("g", []byte(b)), api.ErrDiskName)
	}
	strokes(t, d, api.MaxDisk)
	put(t, d, "f000", "y")
	must(t, d.Rename("f001", "g"))
	answers(t, "behind a Rename to a new name", d.Append("f001", nil), api.ErrDiskName)
	must(t, d.Rename("g", "f002"))
	put(t, d, "f001", "")
	answers(t, "behind a Rename onto one", d.Append("g", nil), api.ErrDiskName)
	must(t, d.Rename("f001", "f001"))
	answers(t, "behind a Rename onto itself", d.Append("g", nil), api.ErrDiskName)
	must(t, d.Remove("f003"))
	put(t, d, "g", "z")
	answers(t, "behind a Remove", d.Append("h", nil), api.ErrDiskName)
	for k := range d.changes {
		if img := d.Crash([]int{k}); len(img) > api.MaxDisk {
			t.Errorf("%d files behind %d name changes", len(img), k)
		}
	}
}

func TestMostFilesAreThoseSeen(t *testing.T) { // P11.4: what is safe and not seen does not count
	d, e := Load(numbered(api.MaxDisk), 1000)
	answers(t, "Load", e, api.OK)
	for _, f := range numbered(api.MaxDisk) {
		must(t, d.Remove(f.Name))
	}
	for _, f := range numbered(api.MaxDisk) {
		put(t, d, "new-"+f.Name, "")
	}
	answers(t, "another", d.Append("g", nil), api.ErrDiskName)
	if img := d.Crash(nil); told(img) != told(numbered(api.MaxDisk)) {
		t.Errorf("Crash tells %s", told(img))
	}
}

func TestCut(t *testing.T) { // P11.5
	d := loaded(t, 10, "a=xyz", "b=1")
	for _, n := range []int{4, 5, 100, -1, -3, math.MinInt, math.MaxInt} {
		answers(t, "a length that may not be", d.Cut("a", n), api.ErrDiskCut)
	}
	strokes(t, d, 0)
	must(t, d.Cut("a", 3)) // nothing is behind them: no unit
	strokes(t, d, 1)
	seen(t, d, "a=xyz b=1")
	crash(t, d, "a=xyz b=1", 0, 1)
	must(t, d.Cut("a", 2))
	seen(t, d, "a=xy b=1")
	answers(t, "what is gone", d.Cut("a", 3), api.ErrDiskCut)
	must(t, d.Cut("a", 0))
	must(t, d.Cut("a", 0))
	seen(t, d, "a= b=1")
	strokes(t, d, 4)
	for p, want := range []string{"xyz", "xy", "", "xyz"} {
		crash(t, d, "a="+want+" b=1", 0, p, 1)
	}
	must(t, d.Sync("a"))
	crash(t, d, "a= b=1", 0, 0)
	must(t, d.Cut("a", 0))
	answers(t, "of an empty one", d.Cut("a", 1), api.ErrDiskCut)
	put(t, d, "a", "q")
	seen(t, d, "a=q b=1")
}

func TestCutOfWhatIsNotSafe(t *testing.T) { // P11.5, P11.11
	d := loaded(t, 10, "a=xy")
	put(t, d, "a", "12")
	must(t, d.Cut("a", 3))
	put(t, d, "a", "34")
	must(t, d.Cut("a", 1))
	must(t, d.Cut("a", 0))
	put(t, d, "a", "5")
	for p, want := range []string{"xy", "xy1", "xy12", "xy1", "xy13", "xy134", "x", "", "5", "xy"} {
		crash(t, d, "a="+want, 0, p)
	}
	seen(t, d, "a=5")
	must(t, d.Sync("a"))
	for p := range 10 {
		crash(t, d, "a=5", p, p)
	}
}

func TestSyncAndSyncNames(t *testing.T) { // P11.6
	d := fresh(t, 10)
	put(t, d, "a", "xy")
	put(t, d, "b", "1")
	must(t, d.Sync("a")) // ahead of SyncNames: the bytes are safe, the name isn't
	crash(t, d, "", 0, 1, 1)
	crash(t, d, "a=xy", 1, 0)
	crash(t, d, "a=xy b=", 2, 1)
	must(t, d.SyncNames())
	crash(t, d, "a=xy b=")
	crash(t, d, "a=xy b=", 1, 1)
	crash(t, d, "a=xy b=1", 7, 7, 1)
	put(t, d, "c", "23")
	must(t, d.SyncNames()) // ahead of Sync: the name is safe, the bytes aren't
	crash(t, d, "a=xy b= c=", 0, 0, 0, 0)
	crash(t, d, "a=xy b= c=2", 0, 0, 0, 1)
	must(t, d.Sync("c"))
	crash(t, d, "a=xy b= c=23", 0, 0, 0, 0)
	must(t, d.Sync("c"))
	must(t, d.SyncNames())
	strokes(t, d, 9)
	crash(t, d, "a=xy b=1 c=23", -1, -1, -1, -1)
	seen(t, d, "a=xy b=1 c=23")
}

func TestSyncIsOfOneFile(t *testing.T) { // P11.6
	d := loaded(t, 10, "a", "b")
	put(t, d, "a", "x")
	put(t, d, "b", "y")
	must(t, d.Sync("b"))
	crash(t, d, "a= b=y")
	put(t, d, "b", "z")
	crash(t, d, "a=x b=yz", 0, 1, 1)
	crash(t, d, "a=x b=y", 0, 1, 2)
}

func TestRename(t *testing.T) { // P11.7
	d := loaded(t, 10, "a=x", "b=yy")
	must(t, d.Rename("a", "a")) // a stroke, and no name change
	strokes(t, d, 1)
	crash(t, d, "a=x b=yy", 1)
	must(t, d.Rename("a", "c"))
	seen(t, d, "b=yy c=x")
	must(t, d.Rename("c", "b")) // onto one that is there
	seen(t, d, "b=x")
	must(t, d.Rename("b", "a")) // and back
	seen(t, d, "a=x")
	strokes(t, d, 4)
	for p, want := range []string{"a=x b=yy", "b=yy c=x", "b=x", "a=x", "a=x b=yy"} {
		crash(t, d, want, p)
	}
	must(t, d.SyncNames())
	crash(t, d, "a=x", 1, 1)
	crash(t, d, "a=x")
}

func TestRenameTakesTheUnitsAlong(t *testing.T) { // P11.7, P11.11
	d := loaded(t, 10, "a=x", "b=y")
	put(t, d, "a", "1")
	put(t, d, "b", "2")
	must(t, d.Rename("a", "b"))
	put(t, d, "b", "3")
	seen(t, d, "b=x13")
	crash(t, d, "a=x b=y")
	crash(t, d, "a=x13 b=y2", 0, 2, 1)
	crash(t, d, "a=x1 b=y", 0, 1, 2)
	crash(t, d, "b=x", 1, 0)
	crash(t, d, "b=x13", 1, 2)
	must(t, d.Sync("b")) // the file, under whichever name
	crash(t, d, "a=x13 b=y", 0, 1, 0)
	crash(t, d, "b=x13", 1)
}

func TestRemove(t *testing.T) { // P11.7
	d := loaded(t, 10, "a=x", "b=y")
	put(t, d, "a", "1")
	must(t, d.Remove("a"))
	seen(t, d, "b=y")
	answers(t, "again", d.Remove("a"), api.ErrDiskNone)
	answers(t, "Sync of it", d.Sync("a"), api.ErrDiskNone)
	strokes(t, d, 2)
	crash(t, d, "a=x b=y")
	crash(t, d, "a=x1 b=y", 0, 1)
	crash(t, d, "b=y", 1)
	must(t, d.SyncNames()) // now it is gone
	for p := range 5 {
		crash(t, d, "b=y", p, p, p)
	}
	must(t, d.Remove("b"))
	seen(t, d, "")
	crash(t, d, "", 1)
}

func TestRemovedAndMadeAnew(t *testing.T) { // P11.7, P11.11: the two have nothing in common
	d := loaded(t, 10, "a=old")
	put(t, d, "a", "er")
	must(t, d.Remove("a"))
	put(t, d, "a", "new")
	seen(t, d, "a=new")
	crash(t, d, "a=old")
	crash(t, d, "a=older", 0, 2)
	crash(t, d, "a=old", 0, 3)
	crash(t, d, "", 1, 2)
	crash(t, d, "a=", 2, 0)
	crash(t, d, "a=n", 2, 1)
	crash(t, d, "a=new", 2, 3)
	must(t, d.Sync("a")) // the new one's bytes, not the old one's
	crash(t, d, "a=old", 0, 0)
	crash(t, d, "a=olde", 0, 1)
	crash(t, d, "a=new", 2, 0)
	must(t, d.SyncNames())
	crash(t, d, "a=new", 2, 2)
}

func TestSwapOfTwo(t *testing.T) { // P11.7: three renames
	d := loaded(t, 10, "a=x", "b=y")
	must(t, d.Rename("a", "t"))
	must(t, d.Rename("b", "a"))
	must(t, d.Rename("t", "b"))
	seen(t, d, "a=y b=x")
	for p, want := range []string{"a=x b=y", "b=y t=x", "a=y t=x", "a=y b=x"} {
		crash(t, d, want, p)
	}
}

func TestReadIsWhatIsSeen(t *testing.T) { // P11.8
	d := loaded(t, 10, "a=xyz")
	must(t, d.Cut("a", 1))
	put(t, d, "a", "12")
	must(t, d.Cut("a", 2))
	put(t, d, "a", "3")
	for range 2 {
		if b, e := d.Read("a"); e != api.OK || string(b) != "x13" {
			t.Errorf("Read: %q, %d", b, e)
		}
		if n, e := d.Size("a"); e != api.OK || n != 3 {
			t.Errorf("Size: %d, %d", n, e)
		}
	}
	strokes(t, d, 4) // reading is none
}
