package vault

import (
	"fmt"
	"strings"
	"testing"

	"satchel/api"
	"satchel/disk"
)

// begun is a way in which a vault has come to stand on a disk, ahead of a call.
type begun struct {
	name  string
	empty bool
	make  func(t *testing.T) (*Vault, *disk.Disk)
}

// base tells what a vault that is not empty holds: its changes, one behind the other.
func base() []string {
	return []string{
		changeText(1, objectsText(blob, tree, blobOf("lone")), listOf(refText("a", x), refText("b", y)), listOf(noteText("k", "v"))),
		changeText(2, listOf(), listOf(refText("a", y)), listOf(noteText("l", "w"))),
	}
}

func begunOnes() []begun {
	image := func(file, second string) func(t *testing.T) (*Vault, *disk.Disk) {
		return func(t *testing.T) (*Vault, *disk.Disk) {
			t.Helper()
			img := []api.FileBytes{{Name: "vault", Data: []byte(file)}}
			if second != "" {
				img = append(img, api.FileBytes{Name: "vault.new", Data: []byte(second)})
			}
			d := loaded(t, room, img)
			return opened(t, d), d
		}
	}
	whole := wholeText(2, objectsText(blob, tree, blobOf("lone")), listOf(logText("a", none, lineText(1, x), lineText(2, y)), logText("b", none, lineText(1, y))), listOf(noteText("k", "v"), noteText("l", "w")))
	file := recs(base()...)
	return []begun{
		{"new", true, func(t *testing.T) (*Vault, *disk.Disk) {
			d := loaded(t, room, nil)
			return opened(t, d), d
		}},
		{"garbage", true, image("garbage", "")},
		{"applied", false, func(t *testing.T) (*Vault, *disk.Disk) {
			t.Helper()
			d := loaded(t, room, nil)
			v := opened(t, d)
			does(t, v, txn(blob, tree, blobOf("lone"), ref("a", none, x), ref("b", none, y), note("k", "v")), txn(ref("a", x, y), note("l", "w")))
			return v, d
		}},
		{"compacted", false, func(t *testing.T) (*Vault, *disk.Disk) {
			t.Helper()
			v, d := image(file, "")(t)
			answers(t, "Compact", v.Compact(), api.OK)
			return v, d
		}},
		{"opened", false, image(file, "")},
		{"a whole state", false, image(rec(7, whole), "")},
		{"torn", false, image(file+rec(3, base()[1])[:40], "")},
		{"a second file", false, image(file, "left")},
		{"torn, a second file", false, image(file+"torn", rec(3, whole))},
	}
}

// call is one that changes something, of a vault that is begun so.
type call struct {
	name  string
	empty bool // also of an empty one
	ask   func(v *Vault) error
}

func calls() []call {
	apply := func(t api.Txn) func(v *Vault) error { return func(v *Vault) error { return v.Apply(t) } }
	one := blobOf("1")
	return []call{
		{"Apply of all kinds", true, apply(txn(treeOf(api.ModeFile, idOf(one)), one, ref("new", none, idOf(one)), note("n", "1")))},
		{"Apply of a note", true, apply(txn(note("k", "2")))},
		{"Apply of a move", false, apply(txn(ref("a", y, x)))},
		{"Apply of what goes", false, apply(txn(ref("a", y, none), note("k", "")))},
		{"Sweep", false, (*Vault).Sweep},
		{"Compact", true, (*Vault).Compact},
	}
}

// eachCall goes through all calls of all vaults that are begun, with what the call makes of it.
func eachCall(t *testing.T, look func(what string, b begun, c call, was, becomes string)) {
	t.Helper()
	for _, b := range begunOnes() {
		for _, c := range calls() {
			if b.empty && !c.empty {
				continue
			}
			v, d := b.make(t)
			was := seen(v)
			answers(t, b.name+", "+c.name, c.ask(v), api.OK)
			holds(t, "opened", opened(t, d), seen(v))
			look(b.name+", "+c.name, b, c, was, seen(v))
		}
	}
}

func TestDiskFull(t *testing.T) { // P13.5: at each stroke
	eachCall(t, func(what string, b begun, c call, was, becomes string) {
		full := 0
		for at := 1; at <= 6; at++ {
			v, d := b.make(t)
			d.Plan(api.Plan{FullFrom: at, FullTo: at})
			if err := c.ask(v); err == nil {
				holds(t, what, v, becomes)
				continue
			} else {
				answers(t, what, err, api.ErrDiskFull)
			}
			full++
			holds(t, what+", full", v, was)
			holds(t, what+", full, opened", opened(t, d), was)
			holds(t, what+", full, crashed", opened(t, loaded(t, room, d.Crash(nil))), was)
			sound(t, what+", full", v)
			answers(t, what+", again", c.ask(v), api.OK)
			holds(t, what+", again", v, becomes)
			holds(t, what+", again, opened", opened(t, d), becomes)
		}
		if full != 1 {
			t.Errorf("%s: full at %d strokes", what, full)
		}
	})
}

func TestDiskFullAgain(t *testing.T) { // P13.5: again and again, by each call in turn
	for _, b := range begunOnes() {
		v, d := b.make(t)
		was := seen(v)
		d.Plan(api.Plan{FullFrom: 1, FullTo: 1000})
		for _, c := range append(calls(), calls()...) {
			if b.empty && !c.empty {
				continue
			}
			answers(t, b.name+", "+c.name, c.ask(v), api.ErrDiskFull)
			holds(t, b.name+", "+c.name, v, was)
		}
		holds(t, b.name+", opened", opened(t, d), was)
		d.Plan(api.Plan{})
		does(t, v, txn(note("behind", "1")))
		holds(t, b.name+", behind", opened(t, d), seen(v))
	}
}

func TestNoRoomOnTheDisk(t *testing.T) { // P13.5: a disk that is too small
	one := len(rec(1, changeText(1, listOf(), listOf(), listOf(noteText("k", "v")))))
	d := loaded(t, 3*one, nil)
	v := opened(t, d)
	does(t, v, txn(note("k", "v")))
	was := seen(v)
	answers(t, "a byte too long", v.Apply(txn(note("l", strings.Repeat("v", one+2)))), api.ErrDiskFull)
	holds(t, "a byte too long", v, was)
	does(t, v, txn(note("l", strings.Repeat("v", one+1))))
	was = seen(v)
	answers(t, "a third one", v.Apply(txn(note("m", "v"))), api.ErrDiskFull)
	answers(t, "no room for a second file", v.Compact(), api.ErrDiskFull)
	holds(t, "full", v, was)
	if len(onDisk(t, d)) != 3*one {
		t.Errorf("%d bytes on a disk for %d", len(onDisk(t, d)), 3*one)
	}
	bigger := loaded(t, 9*one, d.Crash(nil))
	v = opened(t, bigger)
	holds(t, "on a greater disk", v, was)
	answers(t, "Compact", v.Compact(), api.OK)
	does(t, v, txn(note("m", "v")))
	holds(t, "opened", opened(t, bigger), seen(v))
}

func TestTooManyFiles(t *testing.T) { // P13.5
	d := loaded(t, room, nil)
	for i := range api.MaxDisk {
		d.Append(fmt.Sprint("other", i), nil)
	}
	v := opened(t, d)
	empty := seen(v)
	answers(t, "Apply", v.Apply(txn(blob)), api.ErrDiskName)
	answers(t, "Compact", v.Compact(), api.ErrDiskName)
	holds(t, "too many files", v, empty)
	d.Remove("other1")
	does(t, v, txn(blob))
	was := seen(v)
	answers(t, "Compact", v.Compact(), api.ErrDiskName)
	answers(t, "Sweep", v.Sweep(), api.ErrDiskName)
	does(t, v, txn(blob))
	holds(t, "too many files again", v, was)
	d.Remove("other2")
	answers(t, "Compact", v.Compact(), api.OK)
	answers(t, "Sweep", v.Sweep(), api.OK)
	if len(v.Ids()) != 0 || v.Number() != 1 {
		t.Errorf("%d objects, number %d", len(v.Ids()), v.Number())
	}
	holds(t, "opened", opened(t, d), seen(v))
}

func TestJournalAtItsEnd(t *testing.T) { // P13.5
	for _, next := range []uint64{api.MaxSeq, api.MaxSeq + 1} {
		v, d := over(t, rec(next-1, base()[0]))
		if next == api.MaxSeq {
			does(t, v, txn(note("last", "1")))
		}
		was, strokes := seen(v), d.Strokes()
		for _, c := range calls() {
			if c.name != "Apply of a move" && c.name != "Apply of what goes" {
				answers(t, c.name, c.ask(v), api.ErrJournalLong)
			}
		}
		answers(t, "a move", v.Apply(txn(ref("a", x, y))), api.ErrJournalLong)
		does(t, v, txn(blob))
		holds(t, "at its end", v, was)
		holds(t, "at its end, opened", opened(t, d), was)
		answers(t, "Check", v.Check(), api.OK)
		if d.Strokes() != strokes {
			t.Errorf("%d strokes", d.Strokes()-strokes)
		}
	}
}

func TestDown(t *testing.T) { // P13.5: every call of a vault that is down
	eachCall(t, func(what string, b begun, c call, was, becomes string) {
		for off := 1; ; off++ {
			v, d := b.make(t)
			d.Plan(api.Plan{Off: off})
			err := c.ask(v)
			if err == nil {
				if off < 3 {
					t.Errorf("%s: %d strokes", what, off-1)
				}
				break
			}
			answers(t, what, err, api.ErrDiskOff)
			for range 2 {
				for _, other := range calls() {
					answers(t, what+", then "+other.name, other.ask(v), api.ErrVaultDown)
				}
				answers(t, what+", then nothing", v.Apply(api.Txn{}), api.ErrVaultDown)
				answers(t, what+", then no object", v.Apply(txn("")), api.ErrVaultDown)
				answers(t, what+", then Check", v.Check(), api.ErrDiskOff)
				holds(t, what+", down", v, was)
			}
			for _, id := range []api.ID{none, {1}} {
				_, err := v.Get(id)
				answers(t, what+", then Get", err, api.ErrVaultMissing, id)
			}
			if s := v.Store(); s.Len() != len(v.Ids()) {
				t.Errorf("%s, down: a store of %d", what, s.Len())
			}
			_, err = Open(d)
			answers(t, what+", then Open", err, api.ErrDiskOff)
		}
	})
}

func TestPowerOfOthers(t *testing.T) { // P13.5: it went off at somebody else's stroke
	eachCall(t, func(what string, b begun, c call, was, becomes string) {
		v, d := b.make(t)
		d.Plan(api.Plan{Off: 1})
		d.SyncNames()
		does(t, v, api.Txn{})
		answers(t, what, v.Apply(txn("")), api.ErrVaultObject)
		answers(t, what, c.ask(v), api.ErrDiskOff)
		answers(t, what+", again", c.ask(v), api.ErrVaultDown)
		holds(t, what, v, was)
	})
}

func TestOpenWithoutPower(t *testing.T) { // P13.6
	d := loaded(t, room, image(recs(base()...)))
	d.Plan(api.Plan{Off: 1})
	d.SyncNames()
	v, err := Open(d)
	answers(t, "Open", err, api.ErrDiskOff)
	if v != nil {
		t.Error("a vault without power")
	}
}

func TestIsOff(t *testing.T) { // P13.5: which errors are those of the power
	for _, e := range []api.Errno{api.ErrDiskOff, api.ErrJournalOff} {
		if !isOff(refused("", 0, e)) || !isOff(&api.Fault{Err: refused("", 0, e)}) {
			t.Errorf("%d is not taken as the power's", e)
		}
	}
	for _, e := range []api.Errno{api.ErrDiskFull, api.ErrDiskName, api.ErrJournalLong, api.ErrVaultDown, api.OK} {
		if isOff(refused("", 0, e)) {
			t.Errorf("%d is taken as the power's", e)
		}
	}
	if isOff(nil) {
		t.Error("nil is taken as the power's")
	}
}
