package vault

import (
	"errors"
	"fmt"
	"math/rand"
	"runtime"
	"slices"
	"strings"
	"testing"
	"time"

	"satchel/api"
)

const spare = "spare room"

// roomy copies a text into a list with spare room behind its end.
func roomy(text string) []byte { return []byte(text + spare)[: len(text) : len(text)+len(spare)] }

// spoil writes over bytes and the spare room behind them.
func spoil(b []byte) {
	for i := range b[:cap(b)] {
		b[:cap(b)][i] = '#'
	}
}

// roomyTxn tells a transaction whose lists all have spare room behind their ends, and something in it.
func roomyTxn(t api.Txn) api.Txn {
	var r api.Txn
	for _, enc := range t.Objects {
		r.Objects = append(r.Objects, roomy(string(enc)))
	}
	for _, n := range t.Notes {
		r.Notes = append(r.Notes, api.Note{Key: n.Key, Value: roomy(string(n.Value))})
	}
	r.Objects = append(r.Objects, roomy("behind"))[:len(t.Objects)]
	r.Notes = append(r.Notes, note("behind", "behind"))[:len(t.Notes)]
	r.Refs = append(slices.Clone(t.Refs), ref("behind", none, none))[:len(t.Refs)]
	return r
}

func TestMemoryOfTransactions(t *testing.T) { // P13.9, R2: what is handed in is neither changed nor kept
	one := txn(tree, blob, blobOf("2"), tree, ref("b", none, x), ref("a", none, y), note("l", "w"), note("k", "v"), note("m", ""))
	for _, plan := range []api.Plan{{}, {FullFrom: 1, FullTo: 1}, {Off: 1}, {Off: 3}} {
		v, d := made(t)
		d.Plan(plan)
		given, same := roomyTxn(one), roomyTxn(one)
		err := v.Apply(given)
		for i := range len(given.Objects) + 1 {
			b := given.Objects[:len(given.Objects)+1][i]
			if w := same.Objects[:len(same.Objects)+1][i]; string(b[:cap(b)]) != string(w[:cap(w)]) || len(b) != len(w) {
				t.Errorf("object %d is %x", i, b[:cap(b)])
			}
		}
		for i := range len(given.Notes) + 1 {
			n, w := given.Notes[:len(given.Notes)+1][i], same.Notes[:len(same.Notes)+1][i]
			if n.Key != w.Key || string(n.Value[:cap(n.Value)]) != string(w.Value[:cap(w.Value)]) {
				t.Errorf("note %d is %q", i, n)
			}
		}
		if !slices.Equal(given.Refs[:len(given.Refs)+1], same.Refs[:len(same.Refs)+1]) {
			t.Errorf("the refs are %v", given.Refs[:len(given.Refs)+1])
		}
		was := seen(v)
		for _, b := range given.Objects {
			spoil(b)
		}
		for _, n := range given.Notes {
			spoil(n.Value)
		}
		clear(given.Objects)
		clear(given.Refs)
		clear(given.Notes)
		holds(t, "what was handed in is written to", v, was)
		if err == nil {
			sound(t, "what was handed in is written to", v)
			answers(t, "Compact", v.Compact(), api.OK)
			holds(t, "and compacted", opened(t, d), was)
		}
	}
}

func TestMemoryOfAnswers(t *testing.T) { // P13.9, R2: what is answered is new memory
	v, d := made(t)
	does(t, v, txn(tree, blob, ref("a", none, y), ref("b", none, x), note("k", "v"), note("l", "w")), txn(ref("a", y, x)))
	ways := map[string]*Vault{"applied": v, "opened": opened(t, d)}
	c := opened(t, loaded(t, room, d.Crash(nil)))
	answers(t, "Compact", c.Compact(), api.OK)
	ways["compacted"], ways["compacted, opened"] = c, opened(t, c.disk)
	want := seen(v)
	for name, v := range ways {
		kept := []string{fmt.Sprint(v.Ids()), fmt.Sprint(v.Refs()), fmt.Sprint(v.Log("a")), fmt.Sprint(v.Notes())}
		ids, refs, log, notes := v.Ids(), v.Refs(), v.Log("a"), v.Notes()
		one, _ := v.Get(y)
		value, _ := v.Note("k")
		store := v.Store()
		_ = append(ids, api.ID{9})
		_ = append(log, api.Move{Number: 9})
		_ = append(refs, api.Ref{Name: "#"})
		_ = append(notes[0].Value, "####"...)
		_ = append(notes, note("#", "#"))
		two := v.Ids()
		spoil(one)
		spoil(value)
		for _, n := range notes {
			spoil(n.Value)
		}
		clear(ids)
		clear(refs)
		clear(log)
		clear(notes)
		store.Clear()
		store.Put([]byte("\x01"))
		holds(t, name+", answers written to", v, want)
		if fmt.Sprint(two) != kept[0] || fmt.Sprint(v.Ids()) != kept[0] || fmt.Sprint(v.Refs()) != kept[1] || fmt.Sprint(v.Log("a")) != kept[2] || fmt.Sprint(v.Notes()) != kept[3] {
			t.Errorf("%s: two answers share memory", name)
		}
		if s := v.Store(); s.Len() != 2 || !s.Has(x) {
			t.Errorf("%s: the store has %d objects", name, s.Len())
		}
		sound(t, name, v)
	}
}

func TestMemoryOfLaterCalls(t *testing.T) { // P13.9: what was answered stays as it was
	v, _ := made(t)
	does(t, v, txn(tree, blob, ref("a", none, y), note("k", "v")))
	for range api.MaxMoves {
		does(t, v, txn(ref("a", y, x)), txn(ref("a", x, y)))
	}
	ids, refs, log, notes, store := v.Ids(), v.Refs(), v.Log("a"), v.Notes(), v.Store()
	told := fmt.Sprint(ids, refs, log, notes, store.Ids())
	does(t, v, txn(ref("a", y, x), ref("b", none, x), note("k", "w"), blobOf("1")), txn(ref("a", x, none)), txn(note("k", "")))
	answers(t, "Sweep", v.Sweep(), api.OK)
	if got := fmt.Sprint(ids, refs, log, notes, store.Ids()); got != told {
		t.Errorf("%s, want %s", got, told)
	}
}

func TestMemoryOfFaults(t *testing.T) { // R2: the ids of an error are new memory
	v, _ := made(t)
	does(t, v, txn(blob, ref("a", none, x)))
	was := seen(v)
	one := txn(treeOf(api.ModeFile, api.ID{2}, api.ModeFile, api.ID{1}))
	for _, ask := range []func() error{
		func() error { return v.Apply(one) },
		func() error { return v.Apply(txn(ref("a", none, x))) },
		func() error { return v.Apply(txn(odd)) },
		func() error { _, err := v.Get(y); return err },
	} {
		var f, g *api.Fault
		errors.As(ask(), &f)
		clear(f.IDs[:cap(f.IDs)])
		errors.As(ask(), &g)
		if len(g.IDs) == 0 || g.IDs[0] == none {
			t.Errorf("ids %x", g.IDs)
		}
	}
	holds(t, "ids written to", v, was)
}

func TestMemoryOfSharedLists(t *testing.T) { // R2: one list handed in as several things
	v, _ := made(t)
	b := []byte("\x01ab")
	does(t, v, api.Txn{Objects: [][]byte{b, b[:2], b, b[:1]}, Notes: []api.Note{{Key: "k", Value: b}, {Key: "l", Value: b[1:]}}})
	was := seen(v)
	spoil(b)
	holds(t, "written to", v, was)
	if len(v.Ids()) != 3 {
		t.Errorf("%d objects", len(v.Ids()))
	}
}

// taken tells how many bytes of memory a call takes.
func taken(call func()) uint64 {
	var before, after runtime.MemStats
	runtime.ReadMemStats(&before)
	call()
	runtime.ReadMemStats(&after)
	return after.TotalAlloc - before.TotalAlloc
}

func TestMemoryIsBounded(t *testing.T) { // R6: sizes are looked at ahead of work
	v, _ := made(t)
	great := make([]byte, 1<<27)
	great[0] = 1
	for what, ask := range map[string]func(){
		"an object": func() { answers(t, "a great object", v.Apply(api.Txn{Objects: [][]byte{great}}), api.ErrVaultObject) },
		"a note": func() {
			answers(t, "a great note", v.Apply(api.Txn{Notes: []api.Note{{Key: "k", Value: great}}}), api.ErrVaultNote)
		},
		"a list": func() { // numbers of items that are not there
			broken(t, "a list", recs("\x02\x01\xff\x3f"))
			broken(t, "a list", recs("\x01\x01\x00\xff\x03"))
			broken(t, "a note", recs("\x01\x01\x00\x00\x01\x01k\xff\xff\x3f"))
		},
	} {
		if n := taken(ask); n > 1<<20 {
			t.Errorf("%s takes %d bytes", what, n)
		}
	}
	list := make([]api.Note, 100) // each may be, all of them have no room
	for i := range list {
		list[i] = api.Note{Key: fmt.Sprint(i), Value: great[:api.MaxNote]}
	}
	if n := taken(func() { answers(t, "too heavy", v.Apply(api.Txn{Notes: list}), api.ErrVaultFull) }); n > 1<<20 {
		t.Errorf("what has no room takes %d bytes", n)
	}
}

func TestManyTransactions(t *testing.T) { // R1: a long journal over a great state is gone through once
	const many = 20000
	var file strings.Builder
	file.WriteString(rec(1, changeText(1, objectsText(append(numbered(api.MaxStore-2), blob, tree)...), listOf(changed(manyRefs(api.MaxRefs))...), listOf(manyNotes(api.MaxNotes)...))))
	for i := range many {
		file.WriteString(rec(uint64(i)+2, changeText(uint64(i)+2, listOf(), listOf(refText("r0007", []api.ID{y, x}[i%2])), listOf(noteText("n0007", fmt.Sprint(i))))))
	}
	d := loaded(t, api.MaxRoom, image(file.String()))
	begin := time.Now()
	v := opened(t, d)
	if v.Number() != many+1 || len(v.Log("r0007")) != api.MaxMoves {
		t.Errorf("number %d", v.Number())
	}
	for i := range 2000 {
		does(t, v, txn(note("n0008", fmt.Sprint("a", i))))
	}
	if took := time.Since(begin); took > time.Minute {
		t.Errorf("it takes %v", took)
	}
}

func TestGreatChildren(t *testing.T) { // R1: a small tree of great blobs is not the work of reading them
	v, d := made(t)
	var ids []api.ID
	first := api.Txn{}
	for i := range 24 {
		enc := "\x01" + strings.Repeat(string(rune('a'+i)), api.MaxObject-5)
		first.Objects = append(first.Objects, []byte(enc))
		ids = append(ids, idOf(enc))
	}
	does(t, v, first)
	begin := time.Now()
	r := rand.New(rand.NewSource(1))
	for range 1000 {
		var entries []any
		for _, i := range r.Perm(len(ids)) {
			entries = append(entries, api.ModeFile, ids[i])
		}
		does(t, v, txn(treeOf(entries...)))
	}
	if w := opened(t, d); w.Number() != 1001 {
		t.Errorf("number %d", w.Number())
	}
	if took := time.Since(begin); took > time.Minute {
		t.Errorf("it takes %v", took)
	}
}

func TestTwoVaults(t *testing.T) { // two vaults on two disks have nothing in common
	v, d := made(t)
	w, e := made(t)
	does(t, v, txn(blob, ref("a", none, x), note("k", "v")))
	does(t, w, txn(tree, blob, ref("a", none, y)))
	was := seen(w)
	does(t, v, txn(ref("a", x, none), note("k", "")))
	answers(t, "Sweep", v.Sweep(), api.OK)
	d.Plan(api.Plan{Off: 1})
	answers(t, "off", v.Compact(), api.ErrDiskOff)
	holds(t, "the other", w, was)
	holds(t, "the other, opened", opened(t, e), was)
	does(t, w, txn(note("k", "v")))
}
