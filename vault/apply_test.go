package vault

import (
	"fmt"
	"slices"
	"strings"
	"testing"

	"satchel/api"
)

func TestExamples(t *testing.T) { // the chapter's examples 1 to 7
	v, d := made(t)
	if v.Number() != 0 || len(v.Ids()) != 0 {
		t.Errorf("a new one: number %d, ids %x", v.Number(), v.Ids())
	}
	answers(t, "the tree alone", v.Apply(txn(tree)), api.ErrVaultMissing, x)
	for range 2 {
		answers(t, "the tree and the blob", v.Apply(txn(tree, blob)), api.OK)
		ids := []api.ID{x, y}
		slices.SortFunc(ids, func(a, b api.ID) int { return strings.Compare(string(a[:]), string(b[:])) })
		if !slices.Equal(v.Ids(), ids) || v.Number() != 1 {
			t.Errorf("ids %x, number %d", v.Ids(), v.Number())
		}
	}
	answers(t, "a to y", v.Apply(txn(ref("a", none, y))), api.OK)
	if log := v.Log("a"); !slices.Equal(log, []api.Move{{Number: 2, New: y}}) {
		t.Errorf("the log of a: %v", log)
	}
	answers(t, "from none", v.Apply(txn(ref("a", none, x))), api.ErrVaultOld, y)
	answers(t, "to what isn't there", v.Apply(txn(ref("a", y, api.ID{31: 1}))), api.ErrVaultTarget, api.ID{31: 1})
	answers(t, "to where it is", v.Apply(txn(ref("a", y, y))), api.OK)
	answers(t, "twice", v.Apply(txn(ref("a", y, x), ref("a", y, x))), api.ErrVaultTwice)
	answers(t, "no name", v.Apply(txn(ref("", none, y))), api.ErrVaultName)
	if v.Number() != 2 {
		t.Errorf("number %d", v.Number())
	}
	does(t, v, txn(ref("a", y, x)))
	if log := v.Log("a"); !slices.Equal(log, []api.Move{{Number: 2, New: y}, {Number: 3, Old: y, New: x}}) {
		t.Errorf("the log of a: %v", log)
	}
	answers(t, "Sweep", v.Sweep(), api.OK)
	if !slices.Equal(v.Ids(), []api.ID{x}) || v.Number() != 3 {
		t.Errorf("swept: ids %x, number %d", v.Ids(), v.Number())
	}
	answers(t, "a kind", v.Apply(txn(odd)), api.ErrVaultKind, x)
	does(t, v, txn(ref("a", x, none)))
	if _, there := v.Ref("a"); there || len(v.Log("a")) != 0 || v.Number() != 4 {
		t.Errorf("a is there %v, number %d", there, v.Number())
	}
	answers(t, "Sweep", v.Sweep(), api.OK)
	if len(v.Ids()) != 0 {
		t.Errorf("swept: ids %x", v.Ids())
	}
	does(t, v, txn(note("k", "v")), txn(note("k", "v")))
	if value, there := v.Note("k"); string(value) != "v" || !there || v.Number() != 5 {
		t.Errorf("k is %q, number %d", value, v.Number())
	}
	does(t, v, txn(note("k", "")))
	if _, there := v.Note("k"); there || v.Number() != 6 {
		t.Errorf("k is there %v, number %d", there, v.Number())
	}
	answers(t, "Compact", v.Compact(), api.OK)
	was := seen(v)
	for names := range 4 {
		for units := range 9 {
			holds(t, "crashed", opened(t, loaded(t, room, d.Crash([]int{names, units, units}))), was)
		}
	}
	d.Plan(api.Plan{Off: 1})
	answers(t, "power off", v.Apply(txn(blob)), api.ErrDiskOff)
	answers(t, "power off, again", v.Apply(txn(blob)), api.ErrVaultDown)
	holds(t, "reads go on", v, was)
}

func TestReading(t *testing.T) { // P13.1
	v, _ := made(t)
	c := commitOf(y, "c")
	g := tagOf(idOf(c), api.KindCommit, "g")
	does(t, v, txn(g, c, tree, blob, ref("b", none, idOf(g)), ref("ab", none, x), ref("a", none, y), note("n", "1"), note("m\x00", "3"), note("m", "2")))
	does(t, v, txn(ref("a", y, x), note("n", "4")))
	for _, enc := range []string{g, c, tree, blob} {
		got, err := v.Get(idOf(enc))
		if string(got) != enc || err != nil || !v.Has(idOf(enc)) || !slices.Contains(v.Ids(), idOf(enc)) {
			t.Errorf("Get: %x, %v", got, err)
		}
		if s := v.Store(); !s.Has(idOf(enc)) || s.Len() != 4 {
			t.Errorf("the store has %d objects", s.Len())
		}
	}
	ids := v.Ids()
	if len(ids) != 4 || !slices.IsSortedFunc(ids, func(a, b api.ID) int { return strings.Compare(string(a[:]), string(b[:])) }) {
		t.Errorf("Ids: %x", ids)
	}
	for _, id := range []api.ID{none, {1}, idOf(odd)} {
		got, err := v.Get(id)
		answers(t, "Get of what isn't there", err, api.ErrVaultMissing, id)
		if len(got) != 0 || v.Has(id) {
			t.Errorf("Get of what isn't there: %x, Has %v", got, v.Has(id))
		}
	}
	if refs := v.Refs(); !slices.Equal(refs, []api.Ref{{Name: "a", ID: x}, {Name: "ab", ID: x}, {Name: "b", ID: idOf(g)}}) {
		t.Errorf("Refs: %v", refs)
	}
	if id, there := v.Ref("a"); id != x || !there {
		t.Errorf("Ref: %x, %v", id, there)
	}
	if log := v.Log("a"); !slices.Equal(log, []api.Move{{Number: 1, New: y}, {Number: 2, Old: y, New: x}}) {
		t.Errorf("Log: %v", log)
	}
	if s := fmt.Sprintf("%q", v.Notes()); s != `[{"m" "2"} {"m\x00" "3"} {"n" "4"}]` {
		t.Errorf("Notes: %s", s)
	}
	if value, there := v.Note("m"); string(value) != "2" || !there {
		t.Errorf("Note: %q, %v", value, there)
	}
	for _, name := range []string{"", "c", "a\x00", "n", strings.Repeat("x", 1000)} {
		if id, there := v.Ref(name); id != none || there || len(v.Log(name)) != 0 {
			t.Errorf("Ref(%q): %x, %v, %v", name, id, there, v.Log(name))
		}
		if value, there := v.Note("b" + name); len(value) != 0 || there {
			t.Errorf("Note(%q): %q, %v", name, value, there)
		}
	}
	if v.Number() != 2 {
		t.Errorf("Number: %d", v.Number())
	}
}

func TestObjects(t *testing.T) { // P13.2, steps 2 and 3
	c := commitOf(y, "c")
	d := commitOf(y, "d", idOf(c))
	g := tagOf(idOf(d), api.KindCommit, "g")
	h := tagOf(idOf(g), api.KindTag, "h")
	all := []string{blob, tree, c, d, g, h}
	for turn := range 2 {
		v, _ := made(t)
		list := slices.Clone(all)
		if turn == 1 {
			slices.Reverse(list)
		}
		list = append(list, list...) // each twice
		var one api.Txn
		for _, enc := range list {
			one.Objects = append(one.Objects, []byte(enc))
		}
		does(t, v, one, one, txn(all[2], all[0]))
		if v.Number() != 1 || len(v.Ids()) != len(all) {
			t.Errorf("number %d, %d objects", v.Number(), len(v.Ids()))
		}
		e := commitOf(y, "e", idOf(d))
		does(t, v, txn(blob, e, tree)) // one is new, its children are in the vault
		if v.Number() != 2 || !v.Has(idOf(e)) {
			t.Errorf("number %d", v.Number())
		}
	}
}

func TestNoObject(t *testing.T) { // P13.2, step 2
	v, _ := made(t)
	for _, enc := range []string{"", "\x00", "\x05", "\x02", tree[:len(tree)-1], tree + "x", "\x02\x80\x00", strings.Repeat("\x01", api.MaxObject+1)} {
		answers(t, fmt.Sprintf("%.9x", enc), v.Apply(txn(blob, enc)), api.ErrVaultObject)
	}
	does(t, v, txn(strings.Repeat("\x01", api.MaxObject)))
	if len(v.Ids()) != 1 || v.Number() != 1 {
		t.Errorf("%d objects, number %d", len(v.Ids()), v.Number())
	}
}

func TestClash(t *testing.T) { // P13.2, step 2, R7: no two bytes of one id are known, so it is asked within
	v, _ := made(t)
	does(t, v, txn(blob))
	objects := map[api.ID]fresh{}
	take := func(id api.ID, enc string) error { return v.state.take(id, fresh{enc: []byte(enc)}, objects) }
	answers(t, "one that is there", take(x, blob), api.OK)
	answers(t, "other bytes in the vault", take(x, odd), api.ErrVaultClash, x)
	if len(objects) != 0 {
		t.Errorf("%d are new", len(objects))
	}
	answers(t, "a new one", take(y, tree), api.OK)
	answers(t, "a new one again", take(y, tree), api.OK)
	answers(t, "other bytes among the new ones", take(y, odd), api.ErrVaultClash, y)
	if len(objects) != 1 || string(objects[y].enc) != tree {
		t.Errorf("%d are new", len(objects))
	}
}

func TestChildren(t *testing.T) { // P13.2, step 3
	one, two, three := idOf(blobOf("1")), idOf(blobOf("2")), idOf(blobOf("3"))
	file, dir := api.ModeFile, api.ModeTree
	v, _ := made(t)
	does(t, v, txn(blob, tree, blobOf("3")))
	was := seen(v)
	missing, kind := api.ErrVaultMissing, api.ErrVaultKind
	for i, c := range []struct {
		txn  api.Txn
		want api.Errno
		ids  []api.ID
	}{
		{txn(treeOf(file, one, dir, two, file, one)), missing, []api.ID{one, two}},
		{txn(treeOf(file, one), treeOf(file, two), blobOf("2")), missing, []api.ID{one}},
		{txn(treeOf(file, one), treeOf(file, two), treeOf(file, one, file, two)), missing, []api.ID{one, two}},
		{txn(treeOf(dir, x, file, one, file, y), odd), missing, []api.ID{one}}, // and kinds are wrong, too
		{txn(odd), kind, []api.ID{x}},
		{txn(treeOf(file, y)), kind, []api.ID{y}},
		{txn(treeOf(file, y, dir, x, dir, y, file, x)), kind, []api.ID{x, y}},
		{txn(treeOf(file, x, dir, x)), kind, []api.ID{x}}, // right in one place, wrong in another
		{txn(treeOf(dir, one), blobOf("1"), treeOf(dir, three)), kind, []api.ID{one, three}},
		{txn(commitOf(x, "")), kind, []api.ID{x}},
		{txn(commitOf(y, "", y)), kind, []api.ID{y}},
		{txn(commitOf(y, "", one, two)), missing, []api.ID{one, two}},
		{txn(commitOf(none, "")), missing, []api.ID{none}},
		{txn(tagOf(y, api.KindBlob, "g")), kind, []api.ID{y}},
		{txn(tagOf(x, api.KindTag, "g")), kind, []api.ID{x}},
		{txn(tagOf(one, api.KindBlob, "g")), missing, []api.ID{one}},
		{txn(tagOf(x, api.KindBlob, "g"), tagOf(idOf(tagOf(x, api.KindBlob, "g")), api.KindCommit, "h")), kind, []api.ID{idOf(tagOf(x, api.KindBlob, "g"))}},
	} {
		answers(t, fmt.Sprintf("case %d", i), v.Apply(c.txn), c.want, c.ids...)
		holds(t, fmt.Sprintf("case %d", i), v, was)
	}
}

func TestNames(t *testing.T) { // P13.2, steps 4 and 5
	for _, name := range []string{"a", "\x00", strings.Repeat("n", api.MaxName), "\xff/ "} {
		v, _ := made(t)
		does(t, v, txn(blob, ref(name, none, x), note(name, "v")))
		if id, there := v.Ref(name); id != x || !there {
			t.Errorf("Ref(%q): %x, %v", name, id, there)
		}
		if value, there := v.Note(name); string(value) != "v" || !there {
			t.Errorf("Note(%q): %q, %v", name, value, there)
		}
	}
	v, _ := made(t)
	for _, name := range []string{"", strings.Repeat("n", api.MaxName+1), strings.Repeat("n", 1<<20)} {
		answers(t, "a ref", v.Apply(txn(blob, ref(name, none, x))), api.ErrVaultName)
		answers(t, "a ref that stays away", v.Apply(txn(ref(name, none, none))), api.ErrVaultName)
		answers(t, "a note", v.Apply(txn(note(name, "v"))), api.ErrVaultNote)
		answers(t, "a note that stays away", v.Apply(txn(note(name, ""))), api.ErrVaultNote)
	}
	if v.Number() != 0 {
		t.Errorf("number %d", v.Number())
	}
}

func TestRefs(t *testing.T) { // P13.2, step 4
	v, _ := made(t)
	does(t, v, txn(blob, tree, ref("a", none, x)))
	was := seen(v)
	gone, one := api.ID{7}, idOf(blobOf("1"))
	for i, c := range []struct {
		ref  api.RefChange
		want api.Errno
		ids  []api.ID
	}{
		{ref("a", y, x), api.ErrVaultOld, []api.ID{x}},
		{ref("a", none, x), api.ErrVaultOld, []api.ID{x}},
		{ref("a", none, none), api.ErrVaultOld, []api.ID{x}},
		{ref("a", gone, gone), api.ErrVaultOld, []api.ID{x}},
		{ref("b", x, y), api.ErrVaultOld, nil},
		{ref("b", x, none), api.ErrVaultOld, nil},
		{ref("a", x, gone), api.ErrVaultTarget, []api.ID{gone}},
		{ref("b", none, gone), api.ErrVaultTarget, []api.ID{gone}},
		{ref("a", x, one), api.ErrVaultTarget, []api.ID{one}},
		{ref("a", x, x), api.OK, nil},
		{ref("b", none, none), api.OK, nil},
	} {
		answers(t, fmt.Sprintf("case %d", i), v.Apply(txn(c.ref)), c.want, c.ids...)
		holds(t, fmt.Sprintf("case %d", i), v, was)
	}
	does(t, v, txn(ref("b", none, one), ref("a", x, y), blobOf("1"))) // an object of the same transaction
	if id, _ := v.Ref("b"); id != one {
		t.Errorf("b is at %x", id)
	}
	does(t, v, txn(ref("b", one, none)), txn(ref("b", none, y)), txn(ref("b", y, one)))
	if log := v.Log("b"); !slices.Equal(log, []api.Move{{Number: 4, New: y}, {Number: 5, Old: y, New: one}}) {
		t.Errorf("a ref that was gone: %v", log)
	}
	answers(t, "twice", v.Apply(txn(ref("a", y, y), ref("b", one, one), ref("a", y, y))), api.ErrVaultTwice)
	answers(t, "twice, the second wrong", v.Apply(txn(ref("a", y, x), ref("a", one, gone))), api.ErrVaultTwice)
	answers(t, "twice, one that isn't there", v.Apply(txn(ref("c", none, none), ref("c", none, none))), api.ErrVaultTwice)
}

func TestNotes(t *testing.T) { // P13.2, step 5
	v, _ := made(t)
	great := strings.Repeat("v", api.MaxNote)
	answers(t, "a long value", v.Apply(txn(note("k", great+"v"))), api.ErrVaultNote)
	does(t, v, txn(note("k", great)))
	if value, there := v.Note("k"); string(value) != great || !there {
		t.Errorf("a great note has %d bytes", len(value))
	}
	answers(t, "twice", v.Apply(txn(note("l", "1"), note("k", "2"), note("l", "1"))), api.ErrVaultTwice)
	answers(t, "twice, away", v.Apply(txn(note("m", ""), note("m", ""))), api.ErrVaultTwice)
	answers(t, "twice, the second too long", v.Apply(txn(note("m", ""), note("m", great+"v"))), api.ErrVaultNote)
	does(t, v, txn(note("m", ""), api.Note{Key: "n"}, note("k", great)))
	if v.Number() != 1 {
		t.Errorf("number %d", v.Number())
	}
	does(t, v, txn(api.Note{Key: "k"}, note("m", "1")))
	if s := fmt.Sprintf("%q", v.Notes()); s != `[{"m" "1"}]` || v.Number() != 2 {
		t.Errorf("notes %s, number %d", s, v.Number())
	}
}

// wrong is a thing that is wrong with a transaction: at which step it is met, and what is answered. Those of one step are met in the order in which they stand in the transaction.
type wrong struct {
	name string
	step int
	part any
	want api.Errno
	ids  []api.ID
}

func wrongs() []wrong {
	gone := api.ID{7}
	return []wrong{
		{"no object", 2, "\x09", api.ErrVaultObject, nil},
		{"a child is missing", 3, treeOf(api.ModeFile, gone), api.ErrVaultMissing, []api.ID{gone}},
		{"a child's kind", 4, odd, api.ErrVaultKind, []api.ID{x}},
		{"a ref's name", 5, ref("", none, none), api.ErrVaultName, nil},
		{"a ref twice", 5, ref("b", none, none), api.ErrVaultTwice, nil},
		{"a ref is elsewhere", 5, ref("a", y, gone), api.ErrVaultOld, []api.ID{x}},
		{"a ref isn't there", 5, ref("c", y, gone), api.ErrVaultOld, nil},
		{"a target", 5, ref("d", none, gone), api.ErrVaultTarget, []api.ID{gone}},
		{"a note's key", 6, note("", ""), api.ErrVaultNote, nil},
		{"a note's value", 6, note("k", strings.Repeat("v", api.MaxNote+1)), api.ErrVaultNote, nil},
		{"a note twice", 6, note("l", ""), api.ErrVaultTwice, nil},
	}
}

func TestPairs(t *testing.T) { // P13.2, R4: of two faults the first is told, and nothing has changed
	v, _ := made(t)
	does(t, v, txn(blob, tree, ref("a", none, x)))
	was := seen(v)
	right := []any{blobOf("new"), ref("b", none, x), note("l", "1")}
	for i, one := range wrongs() {
		for k, two := range wrongs() {
			first := one
			if two.step < one.step {
				first = two
			}
			if i == k {
				continue
			}
			what := one.name + ", " + two.name
			answers(t, what, v.Apply(txn(append(slices.Clone(right), one.part, two.part)...)), first.want, first.ids...)
			holds(t, what, v, was)
		}
	}
	d := v.disk
	d.Plan(api.Plan{Off: 1})
	answers(t, "off", v.Apply(txn(right...)), api.ErrDiskOff)
	for _, one := range wrongs() {
		answers(t, "down, "+one.name, v.Apply(txn(append(slices.Clone(right), one.part)...)), api.ErrVaultDown)
	}
}

func TestFaultsAheadOfFull(t *testing.T) { // P13.2: what is wrong is told ahead of what has no room, and that ahead of the disk
	full := listOf(manyNotes(api.MaxNotes)...)
	file := rec(9, wholeText(api.MaxSeq, objectsText(blob), listOf(logText("a", none, lineText(1, x))), full))
	more := []any{note("more", "1"), note("b", "1")}
	v, d := over(t, file)
	d.Plan(api.Plan{Off: 1})
	was := seen(v)
	for _, one := range wrongs() {
		if one.name == "a ref twice" || one.name == "a note twice" {
			continue // they want another one ahead of them
		}
		answers(t, one.name, v.Apply(txn(append(slices.Clone(more), one.part)...)), one.want, one.ids...)
	}
	answers(t, "nothing would change", v.Apply(txn(blob, ref("a", x, x), note("none", ""))), api.OK)
	answers(t, "at the last number, and full", v.Apply(txn(more...)), api.ErrVaultSeq)
	answers(t, "at the last number", v.Apply(txn(ref("a", x, none))), api.ErrVaultSeq)
	holds(t, "at the last number", v, was)

	v, d = over(t, rec(9, wholeText(api.MaxSeq-1, objectsText(blob), listOf(logText("a", none, lineText(1, x))), full)))
	d.Plan(api.Plan{FullFrom: 1, FullTo: 1})
	answers(t, "full, and the disk is full", v.Apply(txn(more...)), api.ErrVaultFull)
	answers(t, "the disk is full", v.Apply(txn(ref("a", x, none))), api.ErrDiskFull)
	does(t, v, txn(ref("a", x, none)))
	if v.Number() != api.MaxSeq {
		t.Errorf("number %d", v.Number())
	}
	answers(t, "one more", v.Apply(txn(ref("a", none, x))), api.ErrVaultSeq)
	answers(t, "Sweep", v.Sweep(), api.OK) // the number stays
	answers(t, "Compact", v.Compact(), api.OK)
	holds(t, "opened", opened(t, d), seen(v))
}

// manyNotes tells the texts of notes, sorted by key.
func manyNotes(n int) []string {
	var list []string
	for i := range n {
		list = append(list, noteText(fmt.Sprintf("n%04d", i), "1"))
	}
	return list
}

func TestNothing(t *testing.T) { // P13.2, step 6
	v, d := made(t)
	does(t, v, api.Txn{}, txn(ref("q", none, none)), txn(note("q", "")))
	if len(onDisk(t, d)) != 0 || d.Strokes() != 0 || v.Number() != 0 {
		t.Errorf("%d strokes, number %d", d.Strokes(), v.Number())
	}
	does(t, v, txn(blob, tree, ref("a", none, x), note("k", "v")))
	was, file, strokes := seen(v), onDisk(t, d), d.Strokes()
	d.Plan(api.Plan{Off: 1})
	for _, one := range []api.Txn{{}, txn(blob), txn(tree, blob, tree), txn(ref("a", x, x)), txn(ref("b", none, none)), txn(note("k", "v")), txn(note("l", "")), txn(note("l", ""), note("k", "v"), ref("b", none, none), ref("a", x, x), blob)} {
		does(t, v, one)
		holds(t, "nothing", v, was)
	}
	if onDisk(t, d) != file || d.Strokes() != strokes {
		t.Errorf("something is written: %d strokes", d.Strokes()-strokes)
	}
}

func TestPart(t *testing.T) { // P13.2, step 8: of a transaction just what changes something is written
	v, d := made(t)
	great := strings.Repeat("v", api.MaxNote)
	does(t, v, txn(blob, tree, ref("a", none, x), note("k", great)))
	was := onDisk(t, d)
	does(t, v, txn(blob, tree, ref("a", x, x), note("k", great), note("l", "1"), ref("b", none, none), note("m", "")))
	if got, want := onDisk(t, d), was+rec(2, changeText(2, objectsText(), listOf(), listOf(noteText("l", "1")))); got != want {
		t.Errorf("%d bytes are written, want %d", len(got)-len(was), len(want)-len(was))
	}
	if log := v.Log("a"); len(log) != 1 || v.Number() != 2 {
		t.Errorf("the log of a ref that stays: %v", log)
	}
	was = onDisk(t, d)
	does(t, v, txn(note("k", great), ref("b", none, y), blobOf("2"), note("l", "1"), ref("a", x, none), blobOf("1"), blob))
	if got, want := onDisk(t, d), was+rec(3, changeText(3, objectsText(blobOf("1"), blobOf("2")), listOf(refText("a", none), refText("b", y)), listOf())); got != want {
		t.Errorf("%x is written", got[len(was):])
	}
	holds(t, "opened", opened(t, d), seen(v))
}

func TestLogs(t *testing.T) { // P13.2: of more than MaxMoves lines the oldest go
	v, d := made(t)
	does(t, v, txn(blob, tree, note("k", "v")), txn(ref("a", none, x), ref("b", none, x)))
	want := []api.Move{{Number: 2, New: x}}
	at, to := x, y
	for i := range 3 * api.MaxMoves {
		does(t, v, txn(ref("a", at, to), ref("b", x, x), note("k", fmt.Sprint(i)))) // the note changes, too: the same number
		want = append(want, api.Move{Number: uint64(3 + i), Old: at, New: to})
		want = want[max(0, len(want)-api.MaxMoves):]
		if got := v.Log("a"); !slices.Equal(got, want) {
			t.Fatalf("behind %d moves: %v", i+2, got)
		}
		if i%16 == 0 || len(want) >= api.MaxMoves-1 && i < api.MaxMoves+3 {
			holds(t, "opened", opened(t, d), seen(v))
			sound(t, "opened", opened(t, d))
			k := opened(t, loaded(t, api.MaxRoom, d.Crash(nil)))
			answers(t, "Compact", k.Compact(), api.OK)
			holds(t, "compacted, opened", opened(t, k.disk), seen(v))
		}
		at, to = to, at
	}
	if got := v.Log("b"); len(got) != 1 {
		t.Errorf("the log of a ref that stays: %v", got)
	}
	if s := v.Number(); s != 2+3*api.MaxMoves {
		t.Errorf("number %d", s)
	}
}
