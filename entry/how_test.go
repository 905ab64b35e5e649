package entry

import (
	"fmt"
	"slices"
	"testing"

	"satchel/api"
	"satchel/object"
	"satchel/vault"
	"satchel/walk"
)

// things are objects of all kinds, behind and beside one another.
func (w *world) things() []api.ID {
	e := w.on("e", w.c)
	root := w.on("root")
	both := w.on("both", w.d, e)
	late := w.on("late", root, both)
	mark := func(target api.ID, kind int, name string) api.ID { return put(w.s, tag(target, kind, name)) }
	markC, markD := mark(w.c, api.KindCommit, "c"), mark(w.d, api.KindCommit, "d")
	twice := mark(markD, api.KindTag, "twice")
	return []api.ID{w.b, w.t, w.c, w.d, e, root, both, late, markC, markD, twice, mark(late, api.KindCommit, "late"), mark(w.t, api.KindTree, "t"), mark(w.b, api.KindBlob, "b"), mark(mark(w.t, api.KindTree, "t2"), api.KindTag, "t3")}
}

// parsed tells an object.
func (w *world) parsed(id api.ID) api.Object {
	o, _ := object.Parse(w.encs(id)[0])
	return o
}

// peeled follows tags.
func (w *world) peeled(id api.ID) api.ID {
	for o := w.parsed(id); o.Kind == api.KindTag; o = w.parsed(id) {
		id = o.Tag.Target
	}
	return id
}

// isBefore tells whether an object's commit is another one's, or an ancestor of it.
func (w *world) isBefore(a, b api.ID) bool {
	a, b = w.peeled(a), w.peeled(b)
	if w.parsed(a).Kind != api.KindCommit || w.parsed(b).Kind != api.KindCommit {
		return false
	}
	line := []api.ID{b}
	for i := 0; i < len(line); i++ {
		line = append(line, w.parsed(line[i]).Commit.Parents...)
	}
	return slices.Contains(line, a)
}

func (w *world) reach(id api.ID) []api.ID {
	list, e := walk.Reach(w.s, ids(id))
	if e != api.OK {
		panic(e)
	}
	return list
}

// less tells the ids that are not among others.
func less(list, others []api.ID) []api.ID {
	return slices.DeleteFunc(slices.Clone(list), func(id api.ID) bool { return slices.Contains(others, id) })
}

func TestHowARefGoesOn(t *testing.T) { // P17.2: from every kind of object to every other one
	w := newWorld()
	things := w.things()
	met := map[int]int{}
	for _, old := range things {
		for _, now := range things {
			for _, force := range []bool{false, true} {
				how := api.HowKept
				switch {
				case old == now:
					how = api.HowSame
				case w.isBefore(old, now):
					how = api.HowForward
				case force:
					how = api.HowForced
				}
				met[how]++
				goesOn(t, w, old, now, force, how)
			}
		}
	}
	for how, n := range map[int]int{api.HowSame: 30, api.HowForward: 60, api.HowForced: 100, api.HowKept: 100} {
		if met[how] < n {
			t.Errorf("how %d is met %d times", how, met[how])
		}
	}
}

// goesOn moves a ref, with the objects that this takes in the vault, in the bundle, or in both.
func goesOn(t *testing.T, w *world, old, now api.ID, force bool, how int) {
	t.Helper()
	rules := rulesOf("x:y")
	rules[0].Force = force
	before, behind := w.reach(old), w.reach(now)
	both := sorted(slices.Concat(before, behind)...)
	for i, c := range []struct{ kept, brought []api.ID }{{before, less(behind, before)}, {before, behind}, {before, both}, {both, nil}, {both, both}, {w.s.Ids(), behind}} {
		v := newVault(t)
		has(t, v, api.Txn{Objects: w.encs(c.kept...), Refs: []api.RefChange{{Name: "y", New: old}}})
		fresh := len(less(c.brought, c.kept))
		what := fmt.Sprintf("from %.4x to %.4x, force %v, objects %d", old, now, force, i)
		comes(t, what, v, rules, w.brings(head(1, nil, stamps("x", now, 1)), c.brought...), result(1, fresh, false, "y", old, now, how))
	}
}

// behindStamps is a vault with all objects that keeps these stamps of home, number 5, by rules x:y; y is where another hand has put it.
func (w *world) behindStamps(t *testing.T, list []api.Stamp, y api.ID) *vault.Vault {
	t.Helper()
	v := newVault(t)
	has(t, v, api.Txn{Objects: w.encs(w.s.Ids()...)})
	_, err := Import(v, "away", []byte("k"), rulesOf("x:y"), w.brings(head(5, nil, list)))
	answers(t, "the bundle ahead", err, api.OK)
	moveTo(t, v, "y", y)
	return v
}

func TestHowInOrder(t *testing.T) { // P17.2: the first that applies
	w := newWorld()
	e := w.on("e", w.c)
	great, small := w.d, e
	if sorted(w.d, e)[0] == w.d {
		great, small = e, w.d
	}
	const same, stale, gone, made, forward, forced, kept = api.HowSame, api.HowStale, api.HowGone, api.HowMade, api.HowForward, api.HowForced, api.HowKept
	for _, c := range []struct {
		what     string
		list     []api.Stamp // of number 5
		y        api.ID
		now      api.ID // of number seq in a bundle of number 6
		seq      int
		how, bit int // without Force, with it
	}{
		{"both none", nil, none, none, 6, same, same},
		{"both none, stale", stamps("x", w.c, 5), none, none, 4, same, same},
		{"at it, stale", stamps("x", w.d, 5), w.c, w.c, 4, same, same},
		{"at it, the best", stamps("x", w.d, 5), w.c, w.c, 6, same, same},
		{"at it, a lesser number of the same", stamps("x", w.c, 5), w.c, w.c, 4, same, same},
		{"stale and gone", stamps("x", w.d, 5), w.d, none, 4, stale, stale},
		{"stale and to be made", stamps("x", none, 5), none, w.c, 4, stale, stale},
		{"stale and forward", stamps("x", none, 5), w.c, w.d, 4, stale, stale},
		{"stale and beside", stamps("x", w.c, 5), e, w.d, 4, stale, stale},
		{"stale though it is the same id", stamps("x", w.d, 5), w.c, w.d, 4, stale, stale},
		{"the same stamp, not at it", stamps("x", w.d, 5), w.c, w.d, 5, forward, forward},
		{"the same stamp, taken away", stamps("x", w.d, 5), none, w.d, 5, made, made},
		{"the same stamp, gone, and come back by another hand", stamps("x", none, 5), w.c, none, 5, gone, gone},
		{"the number again, with a greater id", stamps("x", small, 5), small, great, 5, kept, forced},
		{"the number again, with a lesser id", stamps("x", great, 5), great, small, 5, stale, stale},
		{"the number again, gone", stamps("x", w.c, 5), w.c, none, 5, stale, stale},
		{"the number again, come back", stamps("x", none, 5), none, w.c, 5, made, made},
		{"gone", stamps("x", w.c, 5), w.c, none, 6, gone, gone},
		{"gone, of what another hand made", nil, w.d, none, 6, gone, gone},
		{"made", nil, none, w.d, 6, made, made},
		{"made again", stamps("x", w.c, 5), none, w.d, 6, made, made},
		{"come back", stamps("x", none, 5), none, w.c, 6, made, made},
		{"forward", stamps("x", w.c, 5), w.c, w.d, 6, forward, forward},
		{"forward from another hand's", stamps("x", e, 5), w.c, w.d, 6, forward, forward},
		{"back", stamps("x", w.d, 5), w.d, w.c, 6, kept, forced},
		{"beside", stamps("x", w.d, 5), w.d, e, 6, kept, forced},
		{"another hand's beside", stamps("x", w.c, 5), e, w.d, 6, kept, forced},
		{"a tree in a commit's place", stamps("x", w.c, 5), w.c, w.t, 6, kept, forced},
		{"a commit in a tree's place", stamps("x", w.t, 5), w.t, w.c, 6, kept, forced},
		{"the number of an older bundle, but the best", nil, w.c, w.d, 1, forward, forward},
		{"a kept stamp of another name", stamps("z", w.d, 5), w.c, w.d, 4, forward, forward},
	} {
		for _, force := range []bool{false, true} {
			how := c.how
			rules := rulesOf("x:y")
			if rules[0].Force = force; force {
				how = c.bit
			}
			v := w.behindStamps(t, c.list, c.y)
			comes(t, fmt.Sprint(c.what, ", force ", force), v, rules, w.brings(head(6, nil, stamps("x", c.now, c.seq))), result(6, 0, false, "y", c.y, c.now, how))
		}
	}
}

func TestLogs(t *testing.T) { // P17.1, P17.2: the refs move in the one transaction
	w := newWorld()
	e := w.on("e", w.c)
	v := newVault(t)
	rules := rulesOf("+heads/*:far/*")
	all := w.s.Ids()
	comes(t, "1", v, rules, w.brings(head(1, nil, stamps("heads/a", w.c, 1, "heads/b", w.c, 1, "heads/c", w.c, 1)), all...), result(1, len(all), false, "far/a", none, w.c, api.HowMade, "far/b", none, w.c, api.HowMade, "far/c", none, w.c, api.HowMade))
	comes(t, "2", v, rules, w.brings(head(2, nil, stamps("heads/a", w.d, 2, "heads/b", none, 2, "heads/c", w.c, 1))), result(2, 0, false, "far/a", w.c, w.d, api.HowForward, "far/b", w.c, none, api.HowGone, "far/c", w.c, w.c, api.HowSame))
	comes(t, "3", v, rules, w.brings(head(3, nil, stamps("heads/a", e, 3, "heads/b", e, 3))), result(3, 0, false, "far/a", w.d, e, api.HowForced, "far/b", none, e, api.HowMade))
	for name, want := range map[string][]api.Move{
		"far/a": {{Number: 1, New: w.c}, {Number: 2, Old: w.c, New: w.d}, {Number: 3, Old: w.d, New: e}},
		"far/b": {{Number: 3, New: e}},
		"far/c": {{Number: 1, New: w.c}},
	} {
		if got := v.Log(name); !slices.Equal(got, want) {
			t.Errorf("%s: %.4x, want %.4x", name, got, want)
		}
	}
	if v.Number() != 3 || len(v.Refs()) != 3 {
		t.Errorf("%s", seen(v))
	}
}

func TestRowsByTargets(t *testing.T) { // P17.2: sorted by the target's name; what has no target moves nothing, and is kept
	w := newWorld()
	v := newVault(t)
	rules := rulesOf("a:z b:y +tags/*:far/* ^tags/no* c:a heads/*:far-heads/*")
	list := stamps("a", w.c, 9, "b", w.d, 9, "c", w.t, 9, "d", w.c, 9, "e", none, 9, "heads/q", none, 9, "tags/no", w.c, 9, "tags/v", w.b, 9)
	want := result(9, 4, false, "a", none, w.t, api.HowMade, "far-heads/q", none, none, api.HowSame, "far/v", none, w.b, api.HowMade, "y", none, w.d, api.HowMade, "z", none, w.c, api.HowMade)
	comes(t, "some of them", v, rules, w.brings(head(9, nil, list), w.s.Ids()...), want)
	if got := len(v.Refs()); got != 4 {
		t.Errorf("%d refs", got)
	}
	// What was kept without a target counts once there is one.
	more := rulesOf("d:d e:e tags/no:no")
	old := w.brings(head(8, nil, stamps("d", w.d, 8, "e", w.d, 8, "tags/no", w.d, 8)))
	comes(t, "stale", v, more, old, result(8, 0, false, "d", none, w.d, api.HowStale, "e", none, w.d, api.HowStale, "no", none, w.d, api.HowStale))
	comes(t, "the first again, with other rules", v, more, w.brings(head(9, nil, list)), result(9, 0, true, "d", none, w.c, api.HowMade, "e", none, none, api.HowSame, "no", none, w.c, api.HowMade))
	comes(t, "no rules", v, nil, w.brings(head(10, nil, stamps("d", w.t, 10))), result(10, 0, false))
	comes(t, "kept without rules", v, more, old, result(8, 0, true, "d", w.c, w.d, api.HowStale, "e", none, w.d, api.HowStale, "no", w.c, w.d, api.HowStale))
}

func TestHowManyWays(t *testing.T) { // P17.2: a history that leads through the bundle and the vault, more than a store holds
	w := newWorld()
	v := newVault(t)
	has(t, v, api.Txn{Objects: w.encs(w.b, w.t)})
	var line []api.ID
	var parents []api.ID
	for i := range api.MaxStore - 2 {
		id := w.onto(t, v, fmt.Sprint(i), parents...)
		line, parents = append(line, id), ids(id)
	}
	last := line[len(line)-1]
	has(t, v, api.Txn{Refs: []api.RefChange{{Name: "y/a", New: line[0]}, {Name: "y/b", New: last}, {Name: "y/c", New: line[4000]}}})
	var objs [][]byte
	tips := map[string]api.ID{}
	for _, begin := range []api.ID{line[10], last, line[3999]} {
		id := begin
		for i := range 300 {
			o := commit(w.t, fmt.Sprint("more", i), id)
			enc, _ := object.Encode(o)
			id = object.Id(enc)
			objs = append(objs, enc)
		}
		tips[string(rune('a'+len(tips)))] = id
	}
	h := head(1, nil, stamps("x/a", tips["a"], 1, "x/b", tips["b"], 1, "x/c", tips["c"], 1))
	r, err := Check(v, "away", []byte("k"), rulesOf("x/*:y/*"), lay(h, packOf(objs...), "k"))
	answers(t, "Check", err, api.OK)
	want := result(1, 900, false, "y/a", line[0], tips["a"], api.HowForward, "y/b", last, tips["b"], api.HowForward, "y/c", line[4000], tips["c"], api.HowKept)
	if !sameResult(r, want) {
		t.Errorf("%s, want %s", told(r), told(want))
	}
	_, err = Import(v, "away", []byte("k"), rulesOf("x/*:y/*"), lay(h, packOf(objs...), "k"))
	answers(t, "Import", err, api.ErrVaultFull)
}

func TestManyWaysBack(t *testing.T) { // P17.2, R1: a history whose ways can't be gone one by one
	w := newWorld()
	v := newVault(t)
	has(t, v, api.Txn{Objects: w.encs(w.b, w.t, w.c, w.d), Refs: []api.RefChange{{Name: "y", New: w.d}, {Name: "z", New: w.c}}})
	left, right := w.on("left", w.c), w.on("right", w.c)
	var objs []api.ID
	for i := range 60 {
		objs = append(objs, left, right)
		left, right = w.on(fmt.Sprint("left", i), left, right), w.on(fmt.Sprint("right", i), left, right)
	}
	comes(t, "60 steps", v, rulesOf("x:y z:z"), w.brings(head(1, nil, stamps("x", left, 1, "z", left, 1)), append(objs, left)...), result(1, 121, false, "y", w.d, left, api.HowKept, "z", w.c, left, api.HowForward))
}

// onto puts a commit into a vault that gets very full.
func (w *world) onto(t *testing.T, v *vault.Vault, text string, parents ...api.ID) api.ID {
	t.Helper()
	enc, _ := object.Encode(commit(w.t, text, parents...))
	has(t, v, api.Txn{Objects: [][]byte{enc}})
	return object.Id(enc)
}
