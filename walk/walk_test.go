package walk

import (
	"bytes"
	"fmt"
	"go/ast"
	"go/parser"
	"go/token"
	"path/filepath"
	"runtime"
	"slices"
	"strings"
	"testing"

	"satchel/api"
)

func TestExamples(t *testing.T) { // P5.1 to P5.7
	w := newWorld(t)
	x, y := w.blob("x"), w.blob("y")
	tree := w.tree(file("f", x))
	u := w.tree(file("f", x), folder("g", tree))
	c1 := w.commit(tree, 1)
	c2 := w.commit(u, 5, c1)
	c3 := w.commit(tree, 3, c1)
	c4 := w.commit(tree, 4, c2, c3)
	g := w.tag(c4, api.KindCommit)
	h := w.tag(g, api.KindTag)
	absent := all(7)

	w.reach("c2", ids(c2), byID(c2, u, tree, x, c1), api.OK)
	w.reach("nothing", nil, nil, api.OK)
	w.reach("y, y", ids(y, y), ids(y), api.OK)
	w.need("c4, not c2", ids(c4), ids(c2), byID(c4, c3), api.OK)
	w.need("c4, not an id that isn't there", ids(c4), ids(absent), byID(c4, c3, c2, c1, tree, u, x), api.OK)
	w.peel("h", h, c4, api.OK)
	w.peel("x", x, x, api.OK)
	w.order("h", ids(h), nil, ids(c4, c2, c3, c1), api.OK)
	w.order("c4 without c3", ids(c4), ids(c3), ids(c4, c2), api.OK)
	w.order("c2, c3 without c4", ids(c2, c3), ids(c4), nil, api.OK)
	w.bases("c2, c3", c2, c3, ids(c1), api.OK)
	w.bases("c4, c2", c4, c2, ids(c2), api.OK)
	w.bases("c1, c1", c1, c1, ids(c1), api.OK)
	w.before("c1, c4", c1, c4, true, api.OK)
	w.before("c4, c1", c4, c1, false, api.OK)
	w.before("c2, c3", c2, c3, false, api.OK)
	w.before("c2, g", c2, g, true, api.OK)
	w.ancestors("t", tree, nil, api.ErrWalkCommit)
	w.order("x, an id that isn't there", ids(x, absent), nil, nil, api.ErrWalkMissing)
	w.peel("a tag that says 'commit' of a tree", w.tag(tree, api.KindCommit), api.ID{}, api.ErrWalkKind)

	w.s.Remove(x)
	w.missing("x taken out", ids(c4), ids(x))
	w.reach("x taken out", ids(c1), nil, api.ErrWalkMissing)
}

func TestReach(t *testing.T) { // P5.1
	w := newWorld(t)
	x, y := w.blob("x"), w.blob("y")
	empty := w.tree()
	small := w.tree(file("a", x), api.Entry{Mode: api.ModeRun, Name: "b", ID: x}, api.Entry{Mode: api.ModeLink, Name: "c", ID: x})
	great := w.tree(folder("a", small), folder("b", empty), folder("c", small), file("d", y))
	old := w.commit(empty, 1)
	young := w.commit(great, 2, old)
	tag := w.tag(young, api.KindCommit)
	tags := w.tags(tag, api.KindTag, 3)
	leaf := w.tag(small, api.KindTree)
	deep := byID(young, old, great, small, empty, x, y)

	w.reach("no roots", nil, nil, api.OK)
	w.reach("empty roots", ids(), nil, api.OK)
	w.reach("a blob", ids(x), ids(x), api.OK)
	w.reach("the empty tree", ids(empty), ids(empty), api.OK)
	w.reach("a tree", ids(great), byID(great, small, empty, x, y), api.OK)
	w.reach("a first commit", ids(old), byID(old, empty), api.OK)
	w.reach("a commit", ids(young), deep, api.OK)
	w.reach("a tag", ids(tag), byID(append(ids(tag), deep...)...), api.OK)
	w.reach("a tag of tags", ids(tags[2]), byID(append(ids(tag, tags[0], tags[1], tags[2]), deep...)...), api.OK)
	w.reach("a tag of a tree", ids(leaf), byID(leaf, small, x), api.OK)
	w.reach("a tag of a blob", ids(w.tag(y, api.KindBlob)), byID(w.tag(y, api.KindBlob), y), api.OK)
	w.reach("several", ids(y, old, leaf, y, y, old), byID(old, empty, leaf, small, x, y), api.OK)
	w.reach("from the last to the first", ids(old, young), deep, api.OK)
	w.reach("what is no child of it isn't looked at", ids(empty), ids(empty), api.OK)
}

func TestReachOfWhatIsNotThere(t *testing.T) { // P5.1
	w := newWorld(t)
	x := w.blob("x")
	w.reach("the zero id", ids(api.ID{}), nil, api.ErrWalkMissing)
	w.reach("the zero id behind another one", ids(x, api.ID{}), nil, api.ErrWalkMissing)
	for _, gone := range ids(api.ID{}, all(7), all(255)) {
		tree := w.tree(file("a", x), file("b", gone))
		for what, id := range map[string]api.ID{
			"a root":            gone,
			"a file":            tree,
			"a folder":          w.tree(folder("a", gone)),
			"a file in folders": w.tree(folder("b", w.tree(file("a", x), folder("z", tree)))),
			"a commit's tree":   w.commit(gone, 1),
			"a parent":          w.commit(w.tree(), 1, w.commit(w.tree(), 1), gone),
			"a parent's tree":   w.commit(w.tree(), 2, w.commit(tree, 1)),
			"a tag's target":    w.tag(gone, api.KindCommit),
			"a tag's tag's":     w.tag(w.tag(gone, api.KindBlob), api.KindTag),
		} {
			w.reach(what, ids(id), nil, api.ErrWalkMissing)
			w.reach(what+", beside others", ids(x, id, x), nil, api.ErrWalkMissing)
			w.missing(what, ids(id, x, id), ids(gone))
			w.need(what, ids(id), nil, nil, api.ErrWalkMissing)
			w.need(what+", had as well", ids(id), ids(id), nil, api.ErrWalkMissing)
		}
	}
}

// kinds tells one object of each kind.
func (w world) kinds() map[int]api.ID {
	w.t.Helper()
	tree := w.tree()
	commit := w.commit(tree, 1)
	return map[int]api.ID{api.KindBlob: w.blob("x"), api.KindTree: tree, api.KindCommit: commit, api.KindTag: w.tag(commit, api.KindCommit)}
}

// misnamed tells objects that name a child as another kind than it is, one for each place and kind.
func (w world) misnamed() map[string]api.ID {
	w.t.Helper()
	list := map[string]api.ID{}
	empty := w.tree()
	for kind, id := range w.kinds() {
		if kind != api.KindBlob {
			list[fmt.Sprint("a file of kind ", kind)] = w.tree(file("a", w.blob("y")), file("b", id))
		}
		if kind != api.KindTree {
			list[fmt.Sprint("a folder of kind ", kind)] = w.tree(folder("a", id))
			list[fmt.Sprint("a tree of kind ", kind)] = w.commit(id, 1)
		}
		if kind != api.KindCommit {
			list[fmt.Sprint("a parent of kind ", kind)] = w.commit(empty, 1, w.commit(empty, 5), id)
		}
		for said := api.KindBlob; said <= api.KindTag; said++ {
			if said != kind {
				list[fmt.Sprint("a tag that says ", said, " of kind ", kind)] = w.tag(id, said)
			}
		}
	}
	return list
}

func TestReachOfOtherKinds(t *testing.T) { // P5.1, P5.2, P5.3
	w := newWorld(t)
	x := w.blob("x")
	for what, id := range w.misnamed() {
		kind, _ := w.s.Kind(id)
		w.reach(what, ids(id), nil, api.ErrWalkKind)
		w.reach(what+", behind a tag", ids(x, w.tag(id, kind)), nil, api.ErrWalkKind)
		w.missing(what, ids(id), nil)
		w.need(what, ids(x, id), ids(id), nil, api.ErrWalkKind)
		w.need(what+", had", ids(x, w.tag(id, kind)), ids(id, x), nil, api.ErrWalkKind)
		// What is missing counts first, wherever it is met.
		w.reach(what+", ahead of one that isn't there", ids(id, all(9)), nil, api.ErrWalkMissing)
		w.reach(what+", behind one that isn't there", ids(all(9), id), nil, api.ErrWalkMissing)
		w.need(what+", and one that isn't there", ids(w.tag(all(9), 1), id), nil, nil, api.ErrWalkMissing)
	}
	one := w.tree(file("a", x))
	w.reach("a blob named as a file and as a folder", ids(w.tree(file("a", x), folder("b", x))), nil, api.ErrWalkKind)
	w.reach("a tree named as a folder and as a file", ids(w.tree(folder("a", one), file("b", one))), nil, api.ErrWalkKind)
	w.reach("a root that is named as another kind", ids(w.tree(folder("b", x)), x), nil, api.ErrWalkKind)
	w.reach("behind a child of another kind one isn't there", ids(w.tree(file("a", w.tree(file("a", all(3)))))), nil, api.ErrWalkMissing)
	w.missing("behind a child of another kind one isn't there", ids(w.commit(w.tag(all(3), 1), 1)), ids(all(3)))
}

func TestMissing(t *testing.T) { // P5.2
	w := newWorld(t)
	x := w.blob("x")
	tree := w.tree(file("a", all(9)), file("b", x), folder("c", all(3)), file("d", all(9)))
	commit := w.commit(tree, 1, all(200), all(1), api.ID{})
	tag := w.tag(commit, api.KindCommit)
	w.missing("no roots", nil, nil)
	w.missing("empty roots", ids(), nil)
	w.missing("nothing", ids(x, w.tree(file("b", x)), x), nil)
	w.missing("the zero id", ids(api.ID{}), ids(api.ID{}))
	w.missing("roots", ids(all(5), all(2), x, all(5), api.ID{}), ids(api.ID{}, all(2), all(5)))
	w.missing("a tree's", ids(tree), ids(all(3), all(9)))
	w.missing("a tag's", ids(tag), ids(api.ID{}, all(1), all(3), all(9), all(200)))
	w.missing("all", ids(tag, all(3), all(250)), ids(api.ID{}, all(1), all(3), all(9), all(200), all(250)))
	w.s.Remove(tree)
	w.missing("a tree that is taken out", ids(tag), byID(api.ID{}, all(1), tree, all(200)))
}

func TestNeed(t *testing.T) { // P5.3
	w := newWorld(t)
	x, y := w.blob("x"), w.blob("y")
	tx, ty := w.tree(file("a", x)), w.tree(file("a", x), file("b", y))
	c1 := w.commit(tx, 1)
	c2 := w.commit(ty, 2, c1)
	tag := w.tag(c2, api.KindCommit)
	every := byID(c1, c2, tx, ty, x, y)
	w.need("nothing", nil, nil, nil, api.OK)
	w.need("nothing, with some had", ids(), ids(c2), nil, api.OK)
	w.need("nothing is had", ids(c2), nil, every, api.OK)
	w.need("all is had", ids(c2, c1), ids(c2), nil, api.OK)
	w.need("all is had by a tag", ids(c2, c2), ids(tag), nil, api.OK)
	w.need("a tag", ids(tag), ids(c2), ids(tag), api.OK)
	w.need("an old commit is had", ids(c2), ids(c1), byID(c2, ty, y), api.OK)
	w.need("a blob is had", ids(c2), ids(x, x), byID(c1, c2, tx, ty, y), api.OK)
	w.need("a tree is had", ids(c2), ids(ty), byID(c1, c2, tx), api.OK)
	w.need("a blob of what is had", ids(y), ids(tag), nil, api.OK)
	w.need("several", ids(c1, y, c1), ids(tx, tx), byID(c1, y), api.OK)

	w.need("the zero id is had", ids(c2), ids(api.ID{}), every, api.OK)
	w.need("what isn't there is had", ids(c2), ids(all(9), c1), byID(c2, ty, y), api.OK)
	w.need("what is had isn't all there", ids(c2), ids(w.commit(all(9), 1, all(3), c1)), byID(c2, ty, y), api.OK)
	w.need("what is had names x as a folder", ids(tx), ids(w.tree(folder("a", x))), ids(tx), api.OK)
	w.need("what is had names a tree as a blob", ids(c1), ids(w.tag(tx, api.KindBlob)), ids(c1), api.OK)
	for _, wrong := range ids(api.ID{}, all(9), w.commit(all(9), 1), w.tag(w.tree(file("a", tx), file("b", all(9))), api.KindTree)) {
		w.need("what isn't there is wanted", ids(c1, wrong), nil, nil, api.ErrWalkMissing)
		w.need("what isn't there is wanted and had", ids(wrong), ids(wrong, c2), nil, api.ErrWalkMissing)
	}
}

func TestPeel(t *testing.T) { // P5.4
	w := newWorld(t)
	for kind, id := range w.kinds() {
		bare, _ := Peel(w.s, id)
		if kind != api.KindTag && bare != id {
			t.Errorf("Peel of kind %d: %.3x", kind, bare)
		}
		target := id
		for n, tag := range w.tags(id, kind, 4) {
			w.peel(fmt.Sprint(n+1, " tags of kind ", kind), tag, bare, api.OK)
		}
		for said := api.KindBlob; said <= api.KindTag; said++ {
			if said == kind {
				continue
			}
			tag := w.tag(target, said)
			w.peel(fmt.Sprint("a tag that says ", said, " of kind ", kind), tag, api.ID{}, api.ErrWalkKind)
			w.peel("a tag of such a tag", w.tag(tag, api.KindTag), api.ID{}, api.ErrWalkKind)
		}
		gone := w.tags(all(9), kind, 3)
		w.peel("a target that isn't there", gone[0], api.ID{}, api.ErrWalkMissing)
		w.peel("a tag of it", gone[2], api.ID{}, api.ErrWalkMissing)
		if kind != api.KindTag {
			w.peel("a wrong kind, and a target that isn't there", w.tag(gone[2], kind), api.ID{}, api.ErrWalkMissing)
		}
	}
	w.peel("an id that isn't there", all(9), api.ID{}, api.ErrWalkMissing)
	w.peel("the zero id", api.ID{}, api.ID{}, api.ErrWalkMissing)
	w.peel("a tag of the zero id", w.tag(api.ID{}, api.KindTag), api.ID{}, api.ErrWalkMissing)
	odd := w.commit(all(9), 1, all(8))
	w.peel("what stands behind a commit isn't looked at", w.tag(odd, api.KindCommit), odd, api.OK)
	bad := w.tree(folder("a", w.blob("x")))
	w.peel("what stands behind a tree isn't looked at", w.tag(bad, api.KindTree), bad, api.OK)
}

func TestPeelOfRings(t *testing.T) { // P5.4, P5.8
	w := newWorld(t)
	a, b, c, d := all(1), all(2), all(3), all(4)
	w.plant(a, tagOf(b, api.KindTag))
	w.plant(b, tagOf(c, api.KindTag))
	w.plant(c, tagOf(b, api.KindTag))
	w.plant(d, tagOf(d, api.KindTag))
	for _, id := range ids(a, b, c, d) {
		w.peel("a ring", id, api.ID{}, api.ErrWalkKind)
		w.peel("a tag of a ring", w.tag(id, api.KindTag), api.ID{}, api.ErrWalkKind)
		w.peel("a wrong kind ahead of a ring", w.tag(id, api.KindBlob), api.ID{}, api.ErrWalkKind)
		w.missing("a ring", ids(id), nil)
	}
	w.reach("a ring has all that it names", ids(a), ids(a, b, c), api.OK)
	w.need("a ring that is had", ids(a), ids(c), ids(a), api.OK)
	first := w.commit(w.tree(), 1)
	for _, id := range ids(a, b, c, d) {
		w.ancestors("a ring", id, nil, api.ErrWalkKind)
		w.refused("a ring and a commit", id, first, api.ErrWalkKind)
		w.refused("a ring and itself", id, id, api.ErrWalkKind)
		w.refused("a ring and a tree", id, w.tree(), api.ErrWalkKind)
		w.refused("a ring and what isn't there", id, all(9), api.ErrWalkMissing)
	}
	w.order("a ring behind others", ids(first, w.tag(first, api.KindCommit), a), nil, nil, api.ErrWalkKind)
}

func TestErrorsOfCommits(t *testing.T) { // P5.5, P5.6, P5.7
	w := newWorld(t)
	tree, x := w.tree(), w.blob("x")
	first := w.commit(tree, 1)
	good := w.commit(tree, 2, first)
	tag := w.tag(good, api.KindCommit)
	wrong := map[api.Errno][]api.ID{
		api.OK:             {first, good, tag},
		api.ErrWalkCommit:  {x, tree, w.tag(x, api.KindBlob), w.tags(tree, api.KindTree, 4)[3]},
		api.ErrWalkKind:    {w.commit(tree, 1, tree), w.commit(tree, 1, first, x), w.commit(tree, 1, tag), w.tag(good, api.KindTree), w.tag(x, api.KindCommit), w.tags(tag, api.KindCommit, 3)[2]},
		api.ErrWalkMissing: {api.ID{}, all(9), w.tag(all(9), 3), w.commit(tree, 1, first, all(9)), w.tags(all(9), 2, 3)[2]},
	}
	// A wrong kind is no end of the way: what isn't there behind it counts first.
	wrong[api.ErrWalkMissing] = append(wrong[api.ErrWalkMissing],
		w.commit(tree, 1, w.tag(all(9), api.KindCommit)), w.commit(tree, 1, tree, w.commit(tree, 0, api.ID{})), w.tag(w.tag(all(9), 1), 1), w.tag(w.commit(tree, 3, all(9)), 2))
	// A tag that stands where a commit is to be is followed, too.
	wrong[api.ErrWalkKind] = append(wrong[api.ErrWalkKind], w.commit(tree, 4, w.tag(tree, api.KindBlob)), w.commit(tree, 4, w.tag(tree, api.KindTree)))
	for e, list := range wrong {
		for f, others := range wrong {
			for _, a := range list {
				for _, b := range others {
					if worst := worstOf(e, f); worst != api.OK {
						w.refused(fmt.Sprint(e, " and ", f), a, b, worst)
					}
				}
			}
		}
		for _, id := range list {
			if e != api.OK {
				w.ancestors(fmt.Sprint("of ", e), id, nil, e)
				w.order("of three", ids(good, tag, id), ids(first), nil, e)
				w.order("without three", ids(good), ids(first, id, tag), nil, e)
			}
		}
	}
}

// worstOf tells which error counts, by the order in which the chapter names them.
func worstOf(list ...api.Errno) api.Errno {
	for _, e := range []api.Errno{api.ErrWalkMissing, api.ErrWalkKind, api.ErrWalkCommit} {
		if slices.Contains(list, e) {
			return e
		}
	}
	return api.OK
}

func TestTreesOfCommitsAreNotLookedAt(t *testing.T) { // P5.5, P5.6, P5.7
	w := newWorld(t)
	c1 := w.commit(all(9), 1)
	c2 := w.commit(w.blob("x"), 2, c1)
	c3 := w.commit(w.tag(all(7), 1), 3, c2)
	c4 := w.commit(c2, 4, c3)
	w.ancestors("odd trees", c4, byID(c1, c2, c3, c4), api.OK)
	w.order("odd trees", ids(c4), nil, ids(c4, c3, c2, c1), api.OK)
	w.bases("odd trees", c4, c2, ids(c2), api.OK)
	w.before("odd trees", c1, c4, true, api.OK)
	own := w.commit(c3, 5, c1)
	w.ancestors("a commit as a tree is no parent", own, byID(c1, own), api.OK)
	w.before("a commit as a tree is no parent", c3, own, false, api.OK)
	both := w.commit(c1, 6, c2, c1)
	w.order("a commit as a tree and as a parent", ids(both), nil, ids(both, c2, c1), api.OK)
}

func TestAncestorsAndBefore(t *testing.T) { // P5.5
	w := newWorld(t)
	tree := w.tree()
	root, other := w.commit(tree, 1), w.commit(tree, 2)
	left, right := w.commit(tree, 9, root), w.commit(tree, 1, root, other)
	merge := w.commit(tree, 5, left, right)
	top := w.commit(tree, 0, merge)
	behind := map[api.ID][]api.ID{
		root:  {root},
		other: {other},
		left:  {left, root},
		right: {right, root, other},
		merge: {merge, left, right, root, other},
		top:   {top, merge, left, right, root, other},
	}
	for b, list := range behind {
		tags := w.tags(b, api.KindCommit, 2)
		for _, id := range ids(b, tags[0], tags[1]) {
			w.ancestors("a history", id, byID(list...), api.OK)
			for a := range behind {
				was := slices.Contains(list, a)
				w.before("a history", a, id, was, api.OK)
				w.before("a history, by tags", w.tags(a, api.KindCommit, 2)[1], id, was, api.OK)
			}
		}
	}
}

func TestOrder(t *testing.T) { // P5.6
	w := newWorld(t)
	tree := w.tree()
	first := w.commit(tree, 5)
	var same []api.ID
	for i := range 20 {
		same = append(same, w.commit(w.tree(file("f", all(byte(i)))), 7, first))
	}
	w.order("nothing", nil, nil, nil, api.OK)
	w.order("nothing without something", ids(), ids(first), nil, api.OK)
	w.order("one", ids(first), nil, ids(first), api.OK)
	w.order("one twice, and its tag", ids(first, w.tag(first, api.KindCommit), first), nil, ids(first), api.OK)
	w.order("one without itself", ids(first), ids(first), nil, api.OK)
	w.order("one without its tag", ids(first), ids(w.tag(first, api.KindCommit)), nil, api.OK)
	w.order("equal times", same, nil, append(byID(same...), first), api.OK)
	w.order("equal times, two left out", same, same[3:5], byID(append(slices.Clone(same[:3]), same[5:]...)...), api.OK)
	w.order("what is left out is not among them", ids(first), ids(w.commit(tree, 1)), ids(first), api.OK)

	great, least := w.commit(tree, api.MaxTime), w.commit(tree, 0)
	w.order("the greatest and the least time", ids(least, first, great), nil, ids(great, first, least), api.OK)
	// A time that is greater than the child's: the child comes first all the same, and others come ahead of both.
	old := w.commit(tree, 100)
	child := w.commit(tree, 3, old)
	grown := w.commit(tree, 50, child)
	w.order("a greater time than the child's", ids(old, grown, first), nil, ids(grown, first, child, old), api.OK)
	w.order("a child that is left out is not waited for", ids(old, first), ids(child), ids(first), api.OK)
	w.order("a parent that is left out", ids(grown, first), ids(old), ids(grown, first, child), api.OK)
}

// TestOrderOfLinesThatMeetTwice has lines that part, meet, part and meet again.
func TestOrderOfLinesThatMeetTwice(t *testing.T) { // P5.6, P5.7
	w := newWorld(t)
	tree := w.tree()
	c0 := w.commit(tree, 10)
	l1, r1 := w.commit(tree, 11, c0), w.commit(tree, 30, c0)
	m := w.commit(tree, 13, l1, r1)
	l2, r2 := w.commit(tree, 14, m), w.commit(tree, 2, m)
	r3 := w.commit(tree, 20, r2, r1)
	top := w.commit(tree, 1, r3, l2)
	w.order("from the top", ids(top), nil, ids(top, r3, l2, r2, m, r1, l1, c0), api.OK)
	w.order("without the one in the middle", ids(top), ids(m), ids(top, r3, l2, r2), api.OK)
	w.order("without one side", ids(top, c0), ids(l2), ids(top, r3, r2), api.OK)
	w.order("one side without the other one", ids(r3), ids(l1), ids(r3, r2, m, r1), api.OK)
	w.bases("the second sides", l2, r3, ids(m), api.OK)
	w.bases("the first sides", l1, r1, ids(c0), api.OK)
	w.bases("a first and a second side", r3, l1, ids(l1), api.OK)
	w.bases("the top and one side", top, r1, ids(r1), api.OK)
}

func TestBases(t *testing.T) { // P5.7
	w := newWorld(t)
	tree := w.tree()
	root, lone := w.commit(tree, 0), w.commit(tree, 77)
	var tops []api.ID
	for i := range api.MaxParents {
		tops = append(tops, w.commit(tree, uint64(i+1), root))
	}
	a, b := w.commit(tree, 20, tops...), w.commit(tree, 21, tops...)
	w.bases("eight best ones", a, b, byID(tops...), api.OK)
	w.bases("eight best ones, by tags", w.tag(a, 3), w.tags(b, 3, 3)[2], byID(tops...), api.OK)
	w.bases("nothing in common", a, lone, nil, api.OK)
	w.bases("itself", a, a, ids(a), api.OK)
	w.bases("itself by a tag", a, w.tag(a, 3), ids(a), api.OK)
	w.bases("the first one", a, root, ids(root), api.OK)

	c, d := w.commit(tree, 30, tops[0], tops[1]), w.commit(tree, 31, tops[1], tops[2], tops[0])
	w.bases("two best ones, crosswise", c, d, byID(tops[0], tops[1]), api.OK)
	// tops[0] is an ancestor of e, which is common: e alone is best beside tops[1].
	e := w.commit(tree, 2, tops[0])
	f, g := w.commit(tree, 40, e, tops[1]), w.commit(tree, 41, tops[1], tops[0], e)
	w.bases("one is an ancestor of another one", f, g, byID(e, tops[1]), api.OK)
	h := w.commit(tree, 1, w.commit(tree, 2, w.commit(tree, 3, tops[1])))
	i, j := w.commit(tree, 50, h, tops[1]), w.commit(tree, 51, tops[1], h)
	w.bases("a far ancestor", i, j, ids(h), api.OK)
	w.bases("two firsts", w.commit(tree, 60, root, lone), w.commit(tree, 61, lone, root), byID(root, lone), api.OK)
}

func TestRingsOfCommits(t *testing.T) { // P5.5 to P5.8
	w := newWorld(t)
	tree := w.tree()
	behind := w.commit(tree, 9)
	a, b, self, ahead := all(1), all(2), all(3), all(4)
	w.plant(a, commitOf(tree, 1, b))
	w.plant(b, commitOf(tree, 2, a, behind))
	w.plant(self, commitOf(tree, 1, self))
	w.plant(ahead, commitOf(tree, 5, behind, a))
	w.reach("a ring", ids(a), byID(a, b, tree, behind), api.OK)
	w.ancestors("a ring", a, byID(a, b, behind), api.OK)
	w.ancestors("a commit that is its own parent", self, ids(self), api.OK)
	w.before("in a ring", a, b, true, api.OK)
	w.before("in a ring, the other way round", b, a, true, api.OK)
	w.before("ahead of a ring", ahead, a, false, api.OK)
	for _, root := range ids(a, b, self, ahead) {
		w.order("a ring", ids(root), nil, nil, api.ErrWalkKind)
		w.order("a ring and an id that is no commit", ids(root, tree), nil, nil, api.ErrWalkKind)
		w.order("a ring without an id that is no commit", ids(root), ids(tree), nil, api.ErrWalkKind)
		w.order("a ring and an id that isn't there", ids(root), ids(all(9)), nil, api.ErrWalkMissing)
	}
	w.order("a ring that is left out", ids(ahead, a), ids(b), ids(ahead), api.OK)
	w.order("a ring that is left out, and an id that is no commit", ids(ahead, tree), ids(b), nil, api.ErrWalkCommit)
	w.order("what stands behind a ring", ids(behind), ids(), ids(behind), api.OK)
	w.bases("in a ring each is an ancestor of each", a, b, nil, api.OK)
	w.bases("ahead of a ring", ahead, a, nil, api.OK)
	w.bases("ahead of a ring, itself", ahead, ahead, ids(ahead), api.OK)
	w.bases("behind a ring", a, behind, ids(behind), api.OK)

	x, y := all(5), all(6)
	w.plant(x, treeOf(folder("a", y)))
	w.plant(y, treeOf(folder("a", x), file("b", all(9))))
	w.missing("a ring of trees", ids(x), ids(all(9)))
	w.reach("a ring of trees, and what isn't there", ids(y), nil, api.ErrWalkMissing)
	w.plant(y, treeOf(folder("a", x), file("b", x)))
	w.reach("a ring of trees, and a wrong kind", ids(y), nil, api.ErrWalkKind)
	w.need("a ring of trees that is had", ids(tree, y, x), nil, nil, api.ErrWalkKind)
	w.plant(y, treeOf(folder("a", x)))
	w.need("a ring of trees that is had", ids(tree, y, x), ids(y), ids(tree), api.OK)
}

func TestLongHistory(t *testing.T) { // P5.1 to P5.8
	w := newWorld(t)
	line := w.line(api.MaxStore - 1003)
	last := line[len(line)-1]
	tags := w.tags(last, api.KindCommit, 1000)
	top := tags[len(tags)-1]
	reversed := slices.Clone(line)
	slices.Reverse(reversed)
	every := byID(append(append(ids(w.tree()), line...), tags...)...)
	w.reach("a long line", ids(top), every, api.OK)
	w.need("a long line", ids(top), ids(line[5000]), byID(append(slices.Clone(line[5001:]), tags...)...), api.OK)
	w.missing("a long line", ids(top), nil)
	w.peel("a long line", top, last, api.OK)
	w.ancestors("a long line", top, byID(line...), api.OK)
	w.order("a long line", ids(top), nil, reversed, api.OK)
	w.order("nothing without a long line", nil, ids(top), nil, api.OK)
	w.order("a long line, all of it", append(slices.Clone(line), tags...), ids(line[0]), reversed[:len(line)-1], api.OK)
	w.bases("a long line", top, line[4000], ids(line[4000]), api.OK)
	w.before("a long line", line[0], top, true, api.OK)
	w.before("a long line, the other way round", top, line[0], false, api.OK)
	w.s.Remove(line[0])
	w.missing("the first one is taken out", ids(top), ids(line[0]))
	w.reach("the first one is taken out", ids(top), nil, api.ErrWalkMissing)
	w.refused("the first one is taken out", top, line[1], api.ErrWalkMissing)
	w.peel("the first one is taken out", top, last, api.OK)
}

// work tells how many pieces of memory are taken while something is done: each look into an object takes some.
func work(do func()) (pieces, size uint64) {
	var before, behind runtime.MemStats
	runtime.ReadMemStats(&before)
	do()
	runtime.ReadMemStats(&behind)
	return behind.Mallocs - before.Mallocs, behind.TotalAlloc - before.TotalAlloc
}

// calls does all calls once.
func (w world) calls(roots []api.ID, a, b api.ID) {
	Reach(w.s, roots)
	Missing(w.s, roots)
	Need(w.s, roots, roots)
	Order(w.s, roots, nil)
	Order(w.s, nil, roots)
	Order(w.s, roots, ids(a))
	Ancestors(w.s, a)
	Bases(w.s, a, b)
	Before(w.s, a, b)
	Before(w.s, b, a)
	Peel(w.s, a)
}

// TestWork has ways that are many more than the objects: a call that goes each of them never ends, or takes the square of the time.
func TestWork(t *testing.T) { // P5.8
	shapes := map[string]func(n int) func(){
		"all tags of a line of tags": func(n int) func() {
			w := newWorld(t)
			tags := w.tags(w.commit(w.tree(), 1), api.KindCommit, n)
			return func() { w.calls(tags, tags[n-1], tags[0]) }
		},
		"all commits of a line of commits": func(n int) func() {
			w := newWorld(t)
			line := w.line(n)
			return func() { w.calls(line, line[n-1], line[n/2]) }
		},
		"commits with the eight ahead of them as parents": func(n int) func() {
			w := newWorld(t)
			line := ids(w.commit(w.tree(), 1))
			for i := range n {
				line = append(line, w.commit(w.tree(), uint64(i%7), line[max(0, len(line)-api.MaxParents):]...))
			}
			return func() { w.calls(line[n-8:], line[n], line[n-1]) }
		},
		"trees that name the one ahead of them twice": func(n int) func() {
			w := newWorld(t)
			tree := w.tree()
			for range n {
				tree = w.tree(folder("a", tree), folder("b", tree))
			}
			top := w.commit(tree, 1)
			return func() { w.calls(ids(tree, top), top, tree) }
		},
	}
	for what, shape := range shapes {
		few, _ := work(shape(500))
		many, _ := work(shape(2000))
		if many > 6*few {
			t.Errorf("%s: four times the objects take %d pieces of memory, not %d", what, many, few)
		}
	}
}

func TestGreatObjectsAreLookedAtOnce(t *testing.T) { // P5.8, R6
	w := newWorld(t)
	great := w.blob(strings.Repeat("x", api.MaxObject-1))
	var trees []api.ID
	for i := range 10 {
		var entries []api.Entry
		for j := range api.MaxEntries {
			entries = append(entries, file(fmt.Sprintf("%d.%04d", i, j), great))
		}
		trees = append(trees, w.tree(entries...))
	}
	roots := append(slices.Repeat(ids(great), 10000), trees...)
	tag := w.tag(great, api.KindBlob)
	if _, size := work(func() { w.calls(roots, tag, great) }); size > 1<<26 {
		t.Errorf("%d bytes are taken for what is named often", size)
	}
}

// contents tells all that a store holds.
func (w world) contents() map[api.ID]string {
	list := map[api.ID]string{}
	for id, enc := range w.s.All() {
		list[id] = string(enc)
	}
	return list
}

func TestMemory(t *testing.T) { // P5.8, R2
	w := newWorld(t)
	x := w.blob("x")
	tree := w.tree(file("a", x), file("b", x))
	c1 := w.commit(tree, 1)
	c2, c3 := w.commit(tree, 2, c1), w.commit(tree, 3, c1)
	c4 := w.commit(tree, 4, c2, c3)
	tag, broken := w.tag(c4, api.KindCommit), w.commit(tree, 5, all(9), c4)
	stored := w.contents()
	calls := map[string]func(a, b []api.ID) []api.ID{
		"Reach":     func(a, _ []api.ID) []api.ID { l, _ := Reach(w.s, a); return l },
		"Missing":   func(a, _ []api.ID) []api.ID { return Missing(w.s, a) },
		"Need":      func(a, b []api.ID) []api.ID { l, _ := Need(w.s, a, b); return l },
		"Order":     func(a, b []api.ID) []api.ID { l, _ := Order(w.s, a, b); return l },
		"Ancestors": func(a, _ []api.ID) []api.ID { l, _ := Ancestors(w.s, a[0]); return l },
		"Bases":     func(a, b []api.ID) []api.ID { l, _ := Bases(w.s, a[0], b[0]); return l },
		"Before":    func(a, b []api.ID) []api.ID { Before(w.s, a[0], b[0]); return nil },
		"Peel":      func(a, _ []api.ID) []api.ID { id, _ := Peel(w.s, a[0]); return ids(id) },
	}
	for what, call := range calls {
		for _, a := range [][]api.ID{{tag, c1, tag}, {c4}, {c3, c2}, {broken, x, all(3)}, {x}} {
			for _, b := range [][]api.ID{{c2, c1, c2}, {tag}, {broken, api.ID{}}} {
				checkMemory(t, what, call, a, b)
			}
		}
	}
	if got := w.contents(); !equalContents(got, stored) {
		t.Errorf("the store holds %d objects, held %d, or they are others", len(got), len(stored))
	}
}

// checkMemory does a call with spare room behind its lists, and writes to what it was given and what it answers.
func checkMemory(t *testing.T, what string, call func(a, b []api.ID) []api.ID, a, b []api.ID) {
	t.Helper()
	roomA, roomB := append(slices.Clone(a), all(0xee), all(0xed)), append(slices.Clone(b), all(0xec))
	wasA, wasB := slices.Clone(roomA), slices.Clone(roomB)
	one := call(roomA[:len(a)], roomB[:len(b)])
	two := call(roomA[:len(a)], roomB[:len(b)])
	want := slices.Clone(two)
	if !slices.Equal(one, two) {
		t.Errorf("%s: asked twice: %s, then %s", what, short(one), short(two))
	}
	if !slices.Equal(roomA, wasA) || !slices.Equal(roomB, wasB) {
		t.Errorf("%s: what is handed in, or the room behind it, is changed", what)
	}
	spoil(one)
	if !slices.Equal(two, want) || !slices.Equal(roomA, wasA) || !slices.Equal(roomB, wasB) {
		t.Errorf("%s: an answer shares memory", what)
	}
	spoil(roomA)
	spoil(roomB)
	if !slices.Equal(two, want) || !slices.Equal(call(a, b), want) {
		t.Errorf("%s: what is handed in is kept", what)
	}
}

// spoil overwrites a list with the spare room behind its end.
func spoil(list []api.ID) {
	list = list[:cap(list)]
	for i := range list {
		list[i] = all(0xaa)
	}
}

func equalContents(a, b map[api.ID]string) bool {
	for id, enc := range a {
		if b[id] != enc {
			return false
		}
	}
	return len(a) == len(b)
}

func TestListsInAnyOrder(t *testing.T) { // the chapter's head, R3, R9
	w := newWorld(t)
	line := w.line(40)
	last := line[39]
	tags := w.tags(last, api.KindCommit, 5)
	roots := append(append(slices.Clone(line), tags...), line[7:30]...)
	want, _ := Reach(w.s, ids(tags[4]))
	commits, _ := Order(w.s, ids(last), ids(line[9]))
	for range 5 {
		roots = append(roots[11:], roots[:11]...)
		w.reach("turned round", roots, want, api.OK)
		w.need("turned round", roots, append(ids(line[3]), line[:3]...), without(want, append(slices.Clone(line[:4]), w.tree())...), api.OK)
		w.missing("turned round", append(ids(all(9), all(3), all(9)), roots...), ids(all(3), all(9)))
		w.order("turned round", roots, line[:10], commits, api.OK)
		slices.Reverse(roots)
	}
}

// without tells a list without some.
func without(list []api.ID, gone ...api.ID) []api.ID {
	return slices.DeleteFunc(slices.Clone(list), func(id api.ID) bool { return slices.Contains(gone, id) })
}

// TestNothingCallsItself follows the names in the package's text from each function to others of the package.
func TestNothingCallsItself(t *testing.T) { // the chapter's head
	names := namesInFunctions(t)
	if len(names) < 10 || names["Order"] == nil {
		t.Fatalf("only %d functions are found", len(names))
	}
	for begin := range names {
		seen := map[string]bool{}
		next := names[begin]
		for len(next) > 0 {
			name := next[0]
			next = next[1:]
			if name == begin {
				t.Errorf("%s calls itself", begin)
				break
			}
			if names[name] != nil && !seen[name] {
				seen[name] = true
				next = append(slices.Clone(names[name]), next...)
			}
		}
	}
}

func namesInFunctions(t *testing.T) map[string][]string {
	t.Helper()
	names := map[string][]string{}
	files, _ := filepath.Glob("*.go")
	for _, name := range files {
		if strings.HasSuffix(name, "_test.go") {
			continue
		}
		text, err := parser.ParseFile(token.NewFileSet(), name, nil, 0)
		if err != nil {
			t.Fatal(err)
		}
		for _, declared := range text.Decls {
			function, ok := declared.(*ast.FuncDecl)
			if !ok {
				continue
			}
			ast.Inspect(function.Body, func(n ast.Node) bool {
				if name, ok := n.(*ast.Ident); ok {
					names[function.Name.Name] = append(names[function.Name.Name], name.Name)
				}
				return true
			})
		}
	}
	return names
}

func TestSortedByBytes(t *testing.T) { // R9
	w := newWorld(t)
	var list []api.ID
	for i := range 300 {
		list = append(list, w.blob(fmt.Sprint(i)))
	}
	got, _ := Reach(w.s, list)
	for i := range len(got) - 1 {
		if bytes.Compare(got[i][:], got[i+1][:]) >= 0 {
			t.Fatalf("%.3x stands ahead of %.3x", got[i], got[i+1])
		}
	}
	high, low := all(0), all(0)
	high[0], low[31] = 255, 255
	w.missing("high and low bytes", ids(high, low), ids(low, high))
}
