package vault

import (
	"fmt"
	"slices"
	"strings"
	"testing"

	"satchel/api"
	"satchel/disk"
)

// numbered tells n small blobs that are unlike each other.
func numbered(n int) []string {
	var list []string
	for i := range n {
		list = append(list, blobOf(fmt.Sprintf("%05d", i)))
	}
	return list
}

func objectsOf(encs []string) api.Txn {
	var t api.Txn
	for _, enc := range encs {
		t.Objects = append(t.Objects, []byte(enc))
	}
	return t
}

// named tells names of MaxName bytes that are unlike each other, beginning so.
func named(begin string, n int) []string {
	var list []string
	for i := range n {
		list = append(list, fmt.Sprintf("%s%04d%s", begin, i, strings.Repeat("x", api.MaxName-len(begin)-4)))
	}
	return list
}

// lasts holds that a vault's state stands on its disk, and fits into one of the journal's transactions.
func lasts(t *testing.T, what string, v *Vault, d *disk.Disk) {
	t.Helper()
	was := seen(v)
	if seen(opened(t, d)) != was {
		t.Errorf("%s: opened, it is another one", what)
	}
	answers(t, what+": Compact", v.Compact(), api.OK)
	if seen(v) != was || seen(opened(t, d)) != was {
		t.Errorf("%s: compacted, it is another one", what)
	}
	sound(t, what, v)
}

func TestMaxStore(t *testing.T) { // P13.2, step 7
	encs := numbered(api.MaxStore + 1)
	v, d := made(t)
	answers(t, "one too many", v.Apply(objectsOf(encs)), api.ErrVaultFull)
	does(t, v, objectsOf(encs[:api.MaxStore]))
	was := seen(v)
	answers(t, "one more", v.Apply(objectsOf(encs[api.MaxStore:])), api.ErrVaultFull)
	answers(t, "all, and one more", v.Apply(objectsOf(encs)), api.ErrVaultFull)
	does(t, v, objectsOf(encs[:api.MaxStore]))
	if seen(v) != was || v.Number() != 1 || len(v.Ids()) != api.MaxStore {
		t.Errorf("number %d, %d objects", v.Number(), len(v.Ids()))
	}
	lasts(t, "MaxStore", v, d)
	if s := v.Store(); s.Len() != api.MaxStore {
		t.Errorf("a store of %d objects", s.Len())
	}
}

func TestMaxRefs(t *testing.T) { // P13.2, step 7
	v, d := made(t)
	refs := func(names []string, old, new api.ID) api.Txn {
		one := txn(blob, tree)
		for _, name := range names {
			one.Refs = append(one.Refs, ref(name, old, new))
		}
		return one
	}
	names := named("r", 2*api.MaxRefs+1)
	answers(t, "one too many", v.Apply(refs(names[:api.MaxRefs+1], none, x)), api.ErrVaultFull)
	does(t, v, refs(names[:api.MaxRefs], none, x))
	answers(t, "one more", v.Apply(txn(ref("one more", none, x))), api.ErrVaultFull)
	does(t, v, txn(ref("one more", none, x), ref(names[7], x, none))) // the place of another
	does(t, v, txn(ref("one more", x, none), ref(names[7], none, y)))
	does(t, v, txn(ref(names[7], y, x)))
	lasts(t, "MaxRefs", v, d)
	// All of them go, and as many others come.
	swap := refs(names[:api.MaxRefs], x, none)
	swap.Refs = append(swap.Refs, refs(names[api.MaxRefs:], none, y).Refs...)
	answers(t, "one too many", v.Apply(swap), api.ErrVaultFull)
	swap.Refs = swap.Refs[:2*api.MaxRefs]
	does(t, v, swap)
	if len(v.Refs()) != api.MaxRefs || v.Refs()[0].Name != names[api.MaxRefs] {
		t.Errorf("%d refs", len(v.Refs()))
	}
	lasts(t, "other MaxRefs", v, d)
}

func TestMaxNotes(t *testing.T) { // P13.2, step 7
	v, d := made(t)
	notes := func(keys []string, value string) api.Txn {
		var one api.Txn
		for _, key := range keys {
			one.Notes = append(one.Notes, note(key, value))
		}
		return one
	}
	keys := named("n", 2*api.MaxNotes+1)
	answers(t, "one too many", v.Apply(notes(keys[:api.MaxNotes+1], "v")), api.ErrVaultFull)
	does(t, v, notes(keys[:api.MaxNotes], "v"))
	answers(t, "one more", v.Apply(txn(note("one more", "v"))), api.ErrVaultFull)
	does(t, v, txn(note("one more", "v"), note(keys[7], "")), txn(note("one more", ""), note(keys[7], "w")))
	lasts(t, "MaxNotes", v, d)
	swap := notes(keys[:api.MaxNotes], "")
	swap.Notes = append(swap.Notes, notes(keys[api.MaxNotes:], "other").Notes...)
	answers(t, "one too many", v.Apply(swap), api.ErrVaultFull)
	swap.Notes = swap.Notes[:2*api.MaxNotes]
	does(t, v, swap)
	if len(v.Notes()) != api.MaxNotes || v.Notes()[0].Key != keys[api.MaxNotes] {
		t.Errorf("%d notes", len(v.Notes()))
	}
	lasts(t, "other MaxNotes", v, d)
}

// fill fills a vault with notes till that weight is left.
func fill(t *testing.T, v *Vault, left int) {
	t.Helper()
	for i := 0; weigh(v) < api.MaxKept-left; i++ {
		key := fmt.Sprintf("fill %d", i)
		size := api.MaxKept - left - weigh(v) - 64 - len(key)
		does(t, v, txn(note(key, strings.Repeat("f", min(size, api.MaxNote)))))
	}
	if weigh(v) != api.MaxKept-left {
		t.Fatalf("it weighs %d", weigh(v))
	}
}

func TestMaxKept(t *testing.T) { // what is kept: each thing's weight, just so and one more
	for _, c := range []struct {
		name   string
		weight int
		ahead  []any
		part   any
	}{
		{"an object", len(tree) + 64, []any{blob}, tree},
		{"an empty blob", 1 + 64, nil, "\x01"},
		{"a ref", 4 + 64 + 96, []any{blob}, ref("abcd", none, x)},
		{"a line", 96, []any{blob, tree, ref("abcd", none, x)}, ref("abcd", x, y)},
		{"a note", 3 + 5 + 64, nil, note("abc", "value")},
		{"a longer value", 2, []any{note("abc", "val")}, note("abc", "value")},
		{"another value", 0, []any{note("abc", "12345")}, note("abc", "value")},
		{"a shorter value", -4, []any{note("abc", "12345")}, note("abc", "1")},
	} {
		v, _ := made(t)
		does(t, v, txn(c.ahead...))
		fill(t, v, max(c.weight, 0))
		does(t, v, txn(c.part))
		if weigh(v) != api.MaxKept+min(c.weight, 0) {
			t.Errorf("%s: it weighs %d", c.name, weigh(v))
		}
		if c.weight <= 0 {
			continue
		}
		v, d := made(t)
		does(t, v, txn(c.ahead...))
		fill(t, v, c.weight-1)
		was, file := seen(v), onDisk(t, d)
		answers(t, c.name+" too much", v.Apply(txn(c.part)), api.ErrVaultFull)
		if seen(v) != was || onDisk(t, d) != file {
			t.Errorf("%s too much: something has changed", c.name)
		}
	}
}

func TestFullAndLess(t *testing.T) { // P13.2: a state that is full takes what makes it no heavier
	v, d := made(t)
	does(t, v, txn(blob, tree, ref("a", none, x)))
	fill(t, v, 0)
	answers(t, "a line more", v.Apply(txn(ref("a", x, y))), api.ErrVaultFull)
	answers(t, "an object", v.Apply(txn("\x01")), api.ErrVaultFull)
	does(t, v, txn(ref("a", x, none)), txn(ref("b", none, y)))
	answers(t, "a line more", v.Apply(txn(ref("b", y, x))), api.ErrVaultFull)
	does(t, v, txn(ref("b", y, x), note("fill 0", strings.Repeat("g", api.MaxNote-96))))
	if weigh(v) != api.MaxKept {
		t.Errorf("it weighs %d", weigh(v))
	}
	lasts(t, "full", v, d)
	answers(t, "Sweep", v.Sweep(), api.OK)
	lasts(t, "swept", v, d)
	does(t, v, txn(note("new", strings.Repeat("g", len(tree)-3))))
	if weigh(v) != api.MaxKept {
		t.Errorf("with what was swept it weighs %d", weigh(v))
	}
}

func TestFullLog(t *testing.T) { // a log of MaxMoves lines gets no heavier
	v, d := made(t)
	does(t, v, txn(blob, tree))
	fill(t, v, 64+1+96*api.MaxMoves)
	at, to := none, x
	for range 2 * api.MaxMoves {
		does(t, v, txn(ref("a", at, to)))
		at = to
		to = map[api.ID]api.ID{x: y, y: x}[at]
	}
	if weigh(v) != api.MaxKept {
		t.Errorf("it weighs %d", weigh(v))
	}
	answers(t, "a ref more", v.Apply(txn(ref("b", none, x))), api.ErrVaultFull)
	lasts(t, "full", v, d)
}

func TestGreatest(t *testing.T) { // what is kept: a state that has room, and a change behind which it has, always fit into one record
	encs := numbered(api.MaxStore - 1)
	refs := named("r", 2*api.MaxRefs)
	keys := named("n", 2*api.MaxNotes)
	// As many of all things as may be: first all logs, then the rest.
	v, d := made(t)
	ids := []api.ID{idOf(encs[0]), idOf(encs[1])}
	for i := range api.MaxMoves {
		one := objectsOf(encs[:2])
		for _, name := range refs[:api.MaxRefs] {
			old := none
			if i > 0 {
				old = ids[(i+1)%2]
			}
			one.Refs = append(one.Refs, ref(name, old, ids[i%2]))
		}
		does(t, v, one)
	}
	most := objectsOf(encs)
	for _, key := range keys[:api.MaxNotes] {
		most.Notes = append(most.Notes, note(key, "v"))
	}
	does(t, v, most)
	left := api.MaxKept - weigh(v) - 64 - 1
	great := "\x01" + strings.Repeat("g", min(left, api.MaxObject-1))
	does(t, v, txn(great))
	does(t, v, txn(note(keys[0], strings.Repeat("g", min(api.MaxKept-weigh(v)+1, api.MaxNote)))))
	lasts(t, "the most things", v, d)

	// The greatest change: all refs and notes go, and as many others come, with all objects.
	v, d = made(t)
	first := txn(blob)
	for i := range api.MaxNotes {
		first.Notes = append(first.Notes, note(keys[i], "v"))
	}
	for i := range api.MaxRefs {
		first.Refs = append(first.Refs, ref(refs[i], none, x))
	}
	does(t, v, first)
	change := objectsOf(encs)
	for i := range api.MaxNotes {
		change.Notes = append(change.Notes, note(keys[i], ""), note(keys[api.MaxNotes+i], "v"))
	}
	for i := range api.MaxRefs {
		change.Refs = append(change.Refs, ref(refs[i], x, none), ref(refs[api.MaxRefs+i], none, ids[0]))
	}
	rest := api.MaxKept - (len(blob) + 64) - (api.MaxStore-1)*(6+64) - api.MaxRefs*(api.MaxName+64+96) - api.MaxNotes*(api.MaxName+1+64)
	for i := 1; rest > 0; i += 2 {
		more := min(rest, api.MaxNote-1)
		change.Notes[i].Value = []byte(strings.Repeat("g", 1+more))
		rest -= more
	}
	does(t, v, change)
	if weigh(v) != api.MaxKept || len(v.Ids()) != api.MaxStore || len(v.Notes()) != api.MaxNotes || len(v.Refs()) != api.MaxRefs {
		t.Errorf("weight %d, %d objects, %d notes, %d refs", weigh(v), len(v.Ids()), len(v.Notes()), len(v.Refs()))
	}
	lasts(t, "the greatest change", v, d)
}

func TestGreatObjects(t *testing.T) { // objects as long as may be, as many as there is room for
	v, d := made(t)
	var list []string
	for i := range api.MaxKept / (api.MaxObject + 64) {
		list = append(list, strings.Repeat("\x01", api.MaxObject-1)+string(rune(i)))
	}
	does(t, v, objectsOf(list))
	answers(t, "one more", v.Apply(txn("\x01"+strings.Repeat("g", api.MaxObject-1))), api.ErrVaultFull)
	lasts(t, "great objects", v, d)
	ids := v.Ids()
	if len(ids) != len(list) || !slices.Contains(ids, idOf(list[3])) {
		t.Errorf("%d objects", len(ids))
	}
}
