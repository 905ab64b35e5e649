package vault

import (
	"fmt"
	"slices"
	"strings"
	"testing"

	"satchel/api"
	"satchel/disk"
)

func sortedBy(ids ...api.ID) []api.ID {
	slices.SortFunc(ids, func(a, b api.ID) int { return strings.Compare(string(a[:]), string(b[:])) })
	return ids
}

func TestSweep(t *testing.T) { // P13.3
	v, d := made(t)
	c := commitOf(y, "c")
	e := commitOf(y, "e", idOf(c))
	g := tagOf(idOf(e), api.KindCommit, "g")
	lone := treeOf(api.ModeFile, x, api.ModeTree, y)
	idLone := idOf(lone)
	does(t, v, txn(blob, tree, c, e, g, lone, blobOf("1"), blobOf("2")))
	does(t, v, txn(ref("g", none, idOf(g)), ref("1", none, idOf(blobOf("1"))), note("k", blobOf("2")), note("lone", string(idLone[:]))))
	does(t, v, txn(ref("1", idOf(blobOf("1")), y))) // the log alone names it
	logs := fmt.Sprint(v.Log("1"), v.Log("g"), v.Refs(), v.Notes(), v.Number())
	answers(t, "Sweep", v.Sweep(), api.OK)
	if !slices.Equal(v.Ids(), sortedBy(x, y, idOf(c), idOf(e), idOf(g))) {
		t.Errorf("%d objects are left", len(v.Ids()))
	}
	if got := fmt.Sprint(v.Log("1"), v.Log("g"), v.Refs(), v.Notes(), v.Number()); got != logs {
		t.Errorf("%s, want %s", got, logs)
	}
	sound(t, "swept", v)
	holds(t, "swept, opened", opened(t, d), seen(v))
	if s := v.Store(); s.Len() != 5 {
		t.Errorf("the store has %d objects", s.Len())
	}
	// What was swept is gone: it may be missing, and come again.
	answers(t, "a target", v.Apply(txn(ref("2", none, idOf(lone)))), api.ErrVaultTarget, idOf(lone))
	answers(t, "a child", v.Apply(txn(treeOf(api.ModeFile, idOf(blobOf("1"))))), api.ErrVaultMissing, idOf(blobOf("1")))
	does(t, v, txn(lone))
	if !v.Has(idOf(lone)) || v.Number() != 4 {
		t.Errorf("number %d", v.Number())
	}
	does(t, v, txn(ref("g", idOf(g), none)))
	answers(t, "Sweep", v.Sweep(), api.OK)
	if !slices.Equal(v.Ids(), sortedBy(x, y)) {
		t.Errorf("%d objects are left", len(v.Ids()))
	}
	does(t, v, txn(ref("1", y, none)))
	answers(t, "Sweep", v.Sweep(), api.OK)
	if len(v.Ids()) != 0 || len(v.Notes()) != 2 {
		t.Errorf("%d objects are left", len(v.Ids()))
	}
	holds(t, "all swept, opened", opened(t, d), seen(v))
}

func TestSweepOfNothing(t *testing.T) { // P13.3
	for _, ahead := range [][]any{nil, {note("k", "v")}, {blob, tree, ref("a", none, y)}} {
		v, d := made(t)
		does(t, v, txn(ahead...), txn(note("l", "w")))
		was, file, strokes := seen(v), onDisk(t, d), d.Strokes()
		d.Plan(api.Plan{Off: 1})
		answers(t, "Sweep", v.Sweep(), api.OK)
		holds(t, "Sweep", v, was)
		if onDisk(t, d) != file || d.Strokes() != strokes {
			t.Errorf("Sweep of nothing makes %d strokes", d.Strokes()-strokes)
		}
	}
}

func TestCompact(t *testing.T) { // P13.3
	v, d := made(t)
	empty := seen(v)
	answers(t, "Compact", v.Compact(), api.OK)
	holds(t, "an empty one", v, empty)
	holds(t, "an empty one, opened", opened(t, d), empty)
	if onDisk(t, d) != rec(1, wholeText(0, listOf(), listOf(), listOf())) {
		t.Errorf("an empty one: %x", onDisk(t, d))
	}
	does(t, v, txn(blob, tree, ref("a", none, x), ref("b", none, y)), txn(ref("a", x, y), note("k", "v"), note("j", "w")), txn(ref("b", y, none)))
	was := seen(v)
	for i := range 3 { // also where it has been done just now
		strokes := d.Strokes()
		answers(t, "Compact", v.Compact(), api.OK)
		holds(t, "Compact", v, was)
		holds(t, "Compact, opened", opened(t, d), was)
		want := rec(uint64(5+i), wholeText(3, objectsText(blob, tree), listOf(logText("a", none, lineText(1, x), lineText(2, y))), listOf(noteText("j", "w"), noteText("k", "v"))))
		if onDisk(t, d) != want || d.Strokes() != strokes+4 {
			t.Errorf("%d strokes: %x", d.Strokes()-strokes, onDisk(t, d))
		}
	}
	does(t, v, txn(ref("a", y, x)))
	if v.Number() != 4 || len(v.Log("a")) != 3 {
		t.Errorf("number %d", v.Number())
	}
	holds(t, "and on, opened", opened(t, d), seen(v))
}

func TestCheck(t *testing.T) { // P13.4
	begin := func() (*Vault, *disk.Disk) {
		v, d := made(t)
		does(t, v, txn(blob, tree, ref("a", none, x), note("k", "v")), txn(ref("a", x, y)))
		answers(t, "Check", v.Check(), api.OK)
		return v, d
	}
	for name, spoil := range map[string]func(d *disk.Disk){
		"cut":        func(d *disk.Disk) { d.Cut("vault", 60) },
		"cut by one": func(d *disk.Disk) { n, _ := d.Size("vault"); d.Cut("vault", n-1) },
		"gone":       func(d *disk.Disk) { d.Remove("vault") },
		"a transaction": func(d *disk.Disk) {
			d.Append("vault", []byte(rec(3, changeText(3, listOf(), listOf(), listOf(noteText("l", "w"))))))
		},
		"no vault's record": func(d *disk.Disk) { d.Append("vault", []byte(rec(3, "x"))) },
		"another state": func(d *disk.Disk) {
			d.Cut("vault", 0)
			d.Append("vault", []byte(rec(3, wholeText(2, objectsText(blob, tree), listOf(logText("a", none, lineText(2, y))), listOf(noteText("k", "v"))))))
		},
	} {
		v, d := begin()
		was := seen(v)
		spoil(d)
		answers(t, name, v.Check(), api.ErrVaultBroken)
		holds(t, name, v, was)
	}
	for name, write := range map[string]func(d *disk.Disk){
		"another file":       func(d *disk.Disk) { d.Append("other", []byte("x")) },
		"torn":               func(d *disk.Disk) { d.Append("vault", []byte("torn")) },
		"what is told twice": func(d *disk.Disk) { d.Append("vault.new", []byte("x")) },
		"the same state": func(d *disk.Disk) {
			d.Cut("vault", 0)
			d.Append("vault", []byte(rec(3, wholeText(2, objectsText(blob, tree), listOf(logText("a", none, lineText(1, x), lineText(2, y))), listOf(noteText("k", "v"))))))
		},
	} {
		v, d := begin()
		write(d)
		strokes := d.Strokes()
		answers(t, name, v.Check(), api.OK)
		if d.Strokes() != strokes {
			t.Errorf("%s: Check writes", name)
		}
	}
	v, d := begin()
	d.Plan(api.Plan{Off: 1})
	d.SyncNames()
	was := seen(v)
	answers(t, "off", v.Check(), api.ErrDiskOff)
	answers(t, "off, again", v.Check(), api.ErrDiskOff)
	holds(t, "off", v, was)
	answers(t, "it is not down yet", v.Apply(txn(note("l", "w"))), api.ErrDiskOff)
	answers(t, "it is down", v.Apply(txn(note("l", "w"))), api.ErrVaultDown)
	answers(t, "down", v.Check(), api.ErrDiskOff)
}

func TestCheckOfWhatIsKept(t *testing.T) { // P13.4: memory is not what it was
	for _, c := range []struct {
		name  string
		spoil func(s *state)
		off   api.Errno // what is answered without power: the disk's error, if only the disk can tell
	}{
		{"an object is gone", func(s *state) { s.objects.Remove(x) }, api.ErrVaultBroken},
		{"an object more", func(s *state) { s.objects.Put([]byte("\x01")) }, api.ErrDiskOff},
		{"one that is not closed", func(s *state) { s.objects.Put([]byte(treeOf(api.ModeFile, api.ID{1}))) }, api.ErrVaultBroken},
		{"a child's kind", func(s *state) { s.objects.Put([]byte(odd)) }, api.ErrVaultBroken},
		{"a ref is gone", func(s *state) { delete(s.logs, "a") }, api.ErrDiskOff},
		{"a ref more", func(s *state) { s.logs["b"] = s.logs["a"] }, api.ErrDiskOff},
		{"a ref's object", func(s *state) { s.logs["a"][1].New = api.ID{1} }, api.ErrVaultBroken},
		{"a log", func(s *state) { s.logs["a"] = s.logs["a"][1:] }, api.ErrVaultBroken},
		{"a note is gone", func(s *state) { delete(s.notes, "k") }, api.ErrDiskOff},
		{"a note", func(s *state) { s.notes["k"] = []byte("w") }, api.ErrDiskOff},
		{"the number", func(s *state) { s.number++ }, api.ErrDiskOff},
	} {
		v, d := made(t)
		does(t, v, txn(blob, tree, ref("a", none, x), note("k", "v")), txn(ref("a", x, y)))
		answers(t, c.name, v.Check(), api.OK)
		c.spoil(v.state)
		answers(t, c.name, v.Check(), api.ErrVaultBroken)
		d.Plan(api.Plan{Off: 1})
		d.SyncNames()
		answers(t, c.name+", off", v.Check(), c.off)
	}
}
