package walk

import (
	"fmt"
	"math/rand"
	"slices"
	"testing"

	"satchel/api"
)

// model tells the chapter's words in the plainest way, whatever time that takes, of objects that may make rings.
type model map[api.ID]api.Object

func (m model) kind(id api.ID) int { return m[id].Kind }

// links tells what an object names, with the kinds that its places want.
func (m model) links(id api.ID) []api.Link {
	o := m[id]
	var list []api.Link
	switch o.Kind {
	case api.KindTree:
		for _, entry := range o.Entries {
			kind := api.KindBlob
			if entry.Mode == api.ModeTree {
				kind = api.KindTree
			}
			list = append(list, api.Link{ID: entry.ID, Kind: kind})
		}
	case api.KindCommit:
		list = append(list, api.Link{ID: o.Commit.Tree, Kind: api.KindTree})
		for _, parent := range o.Commit.Parents {
			list = append(list, api.Link{ID: parent, Kind: api.KindCommit})
		}
	case api.KindTag:
		list = append(list, api.Link{ID: o.Tag.Target, Kind: o.Tag.Kind})
	}
	return list
}

func (m model) historyLinks(id api.ID) []api.Link {
	switch links := m.links(id); m.kind(id) {
	case api.KindTag:
		return links
	case api.KindCommit:
		return links[1:]
	}
	return nil
}

// closed tells the least set that holds some ids and what links tells of each in it.
func closed(begin []api.ID, links func(api.ID) []api.Link) []api.ID {
	list := []api.ID{}
	add := func(id api.ID) {
		if !slices.Contains(list, id) {
			list = append(list, id)
		}
	}
	for _, id := range begin {
		add(id)
	}
	for i := 0; i < len(list); i++ {
		for _, link := range links(list[i]) {
			add(link.ID)
		}
	}
	return list
}

// faults tells the errors of kinds and of absence in a set.
func (m model) faults(set []api.ID, links func(api.ID) []api.Link) []api.Errno {
	var list []api.Errno
	for _, id := range set {
		if m.kind(id) == api.KindNone {
			list = append(list, api.ErrWalkMissing)
		}
		for _, link := range links(id) {
			if kind := m.kind(link.ID); kind != api.KindNone && kind != link.Kind {
				list = append(list, api.ErrWalkKind)
			}
		}
	}
	return list
}

func (m model) reach(roots []api.ID) ([]api.ID, api.Errno) {
	set := closed(roots, m.links)
	if e := worstOf(m.faults(set, m.links)...); e != api.OK {
		return nil, e
	}
	return byID(set...), api.OK
}

func (m model) missing(roots []api.ID) []api.ID {
	return byID(slices.DeleteFunc(closed(roots, m.links), func(id api.ID) bool { return m.kind(id) != api.KindNone })...)
}

func (m model) need(want, have []api.ID) ([]api.ID, api.Errno) {
	set, e := m.reach(want)
	return without(set, closed(have, m.links)...), e
}

// peeled follows tags, whatever they say; false: it comes to a tag again.
func (m model) peeled(id api.ID) (api.ID, bool) {
	for range len(m) + 1 {
		if m.kind(id) != api.KindTag {
			return id, true
		}
		id = m[id].Tag.Target
	}
	return api.ID{}, false
}

func (m model) peel(id api.ID) (api.ID, api.Errno) {
	tagLinks := func(id api.ID) []api.Link {
		if m.kind(id) != api.KindTag {
			return nil
		}
		return m.links(id)
	}
	faults := m.faults(closed(ids(id), tagLinks), tagLinks)
	to, ends := m.peeled(id)
	if !ends {
		faults = append(faults, api.ErrWalkKind)
	}
	if e := worstOf(faults...); e != api.OK {
		return api.ID{}, e
	}
	return to, api.OK
}

// historyFaults tells the errors that the calls of commits share.
func (m model) historyFaults(handed ...api.ID) []api.Errno {
	faults := m.faults(closed(handed, m.historyLinks), m.historyLinks)
	for _, id := range handed {
		to, ends := m.peeled(id)
		switch {
		case !ends:
			faults = append(faults, api.ErrWalkKind)
		case m.kind(to) == api.KindBlob || m.kind(to) == api.KindTree:
			faults = append(faults, api.ErrWalkCommit)
		}
	}
	return faults
}

func (m model) parents(id api.ID) []api.ID { return m[id].Commit.Parents }

// behind tells the commits that some ids are peeled to, and their ancestors.
func (m model) behind(handed ...api.ID) []api.ID {
	var begin []api.ID
	for _, id := range handed {
		if to, ends := m.peeled(id); ends && m.kind(to) == api.KindCommit {
			begin = append(begin, to)
		}
	}
	isNone := func(id api.ID) bool { return m.kind(id) != api.KindCommit }
	return slices.DeleteFunc(closed(begin, m.parentLinks), isNone)
}

func (m model) parentLinks(id api.ID) []api.Link {
	if m.kind(id) != api.KindCommit {
		return nil
	}
	return m.historyLinks(id)
}

// isAncestor tells whether a is a parent of b, a parent's parent and so on.
func (m model) isAncestor(a, b api.ID) bool {
	return slices.Contains(closed(m.parents(b), m.parentLinks), a)
}

func (m model) ancestors(id api.ID) ([]api.ID, api.Errno) {
	if e := worstOf(m.historyFaults(id)...); e != api.OK {
		return nil, e
	}
	return byID(m.behind(id)...), api.OK
}

func (m model) before(a, b api.ID) (bool, api.Errno) {
	if e := worstOf(m.historyFaults(a, b)...); e != api.OK {
		return false, e
	}
	a, _ = m.peeled(a)
	b, _ = m.peeled(b)
	return a == b || m.isAncestor(a, b), api.OK
}

func (m model) bases(a, b api.ID) ([]api.ID, api.Errno) {
	if e := worstOf(m.historyFaults(a, b)...); e != api.OK {
		return nil, e
	}
	behind := m.behind(b)
	common := slices.DeleteFunc(m.behind(a), func(id api.ID) bool { return !slices.Contains(behind, id) })
	var best []api.ID
	for _, id := range common {
		if !slices.ContainsFunc(common, func(other api.ID) bool { return m.isAncestor(id, other) }) {
			best = append(best, id)
		}
	}
	return byID(best...), api.OK
}

func (m model) order(roots, not []api.ID) ([]api.ID, api.Errno) {
	faults := m.historyFaults(slices.Concat(roots, not)...)
	left := byID(without(m.behind(roots...), m.behind(not...)...)...)
	var list []api.ID
	for len(left) > 0 {
		var next []api.ID // the first of those that may be told now
		for _, id := range left {
			waits := slices.ContainsFunc(left, func(child api.ID) bool { return slices.Contains(m.parents(child), id) })
			if !waits && (len(next) == 0 || m[id].Commit.Time > m[next[0]].Commit.Time) {
				next = ids(id)
			}
		}
		if len(next) == 0 {
			faults = append(faults, api.ErrWalkKind)
			break
		}
		list = append(list, next[0])
		left = without(left, next[0])
	}
	if e := worstOf(faults...); e != api.OK {
		return nil, e
	}
	return list, api.OK
}

// guess makes objects by chance.
type guess struct {
	r     *rand.Rand
	ids   []api.ID
	kinds []int
	odd   int // of 100 names so many are of any kind
	rings bool
}

// pick tells one of the ids, mostly of a kind that is wanted, mostly of those ahead of place; false: there is none.
func (g *guess) pick(place, kind int) (api.ID, bool) {
	if g.rings {
		place = len(g.ids)
	}
	var fit []api.ID
	for i, id := range g.ids[:place] {
		if g.kinds[i] == kind {
			fit = append(fit, id)
		}
	}
	if g.r.Intn(100) < g.odd {
		return g.ids[g.r.Intn(len(g.ids))], true
	}
	if len(fit) == 0 {
		return api.ID{}, false
	}
	near := fit[max(0, len(fit)-4):] // lines that go on side by side meet again and again
	if g.rings || g.r.Intn(4) == 0 {
		near = fit
	}
	return near[g.r.Intn(len(near))], true
}

func (g *guess) tree(place int) api.Object {
	o := treeOf()
	for i := range g.r.Intn(4) {
		entry := api.Entry{Mode: 1 + g.r.Intn(4), Name: fmt.Sprint(i)}
		kind := api.KindBlob
		if entry.Mode == api.ModeTree {
			kind = api.KindTree
		}
		var ok bool
		if entry.ID, ok = g.pick(place, kind); ok {
			o.Entries = append(o.Entries, entry)
		}
	}
	return o
}

func (g *guess) object(place int) api.Object {
	switch g.kinds[place] {
	case api.KindTree:
		return g.tree(place)
	case api.KindCommit:
		o := commitOf(g.ids[0], uint64(g.r.Intn(4)))
		if id, ok := g.pick(place, api.KindTree); ok {
			o.Commit.Tree = id
		}
		for range g.r.Intn(5) {
			if id, ok := g.pick(place, api.KindCommit); ok && !slices.Contains(o.Commit.Parents, id) {
				o.Commit.Parents = append(o.Commit.Parents, id)
			}
		}
		return o
	case api.KindTag:
		kind := 1 + g.r.Intn(4)
		if g.r.Intn(2) == 0 {
			kind = api.KindCommit
		}
		id, ok := g.pick(place, kind)
		if !ok {
			return tagOf(g.ids[0], api.KindTree)
		}
		return tagOf(id, kind)
	}
	return api.Object{Kind: api.KindBlob, Blob: []byte{byte(place)}}
}

// fill makes a world and its model: the first id is a tree without entries; some are not there at last.
func (g *guess) fill(t *testing.T) (world, model) {
	w, m := newWorld(t), model{}
	for i := range g.ids {
		for j := range g.ids[i] {
			g.ids[i][j] = byte(g.r.Intn(256))
		}
		g.kinds[i] = []int{1, 2, 2, 3, 3, 3, 3, 3, 4, 4}[g.r.Intn(10)]
	}
	g.kinds[0] = api.KindTree
	for i, id := range g.ids {
		o := g.object(i)
		if i == 0 {
			o = treeOf()
		}
		if i > 0 && g.r.Intn(300) < g.odd {
			continue
		}
		m[id] = o
		w.plant(id, o)
	}
	return w, m
}

// some tells a few ids, mostly of one kind, some of them several times.
func (g *guess) some(kind int) []api.ID {
	var list []api.ID
	for range g.r.Intn(4) {
		if id, ok := g.pick(len(g.ids), kind); ok {
			list = append(list, id)
		}
	}
	if len(list) > 0 && g.r.Intn(3) == 0 {
		list = append(list, list[0])
	}
	return list
}

func (g *guess) one() api.ID {
	id, ok := g.pick(len(g.ids), []int{3, 3, 3, 4}[g.r.Intn(4)])
	if !ok {
		return g.ids[0]
	}
	return id
}

func TestAgainstTheModel(t *testing.T) { // P5.1 to P5.8
	r := rand.New(rand.NewSource(5))
	met := map[string]int{}
	for n := range 6000 {
		count := 1 + r.Intn(24)
		g := &guess{r: r, ids: make([]api.ID, count), kinds: make([]int, count), odd: []int{0, 0, 2, 10}[n%4], rings: n%5 == 0}
		w, m := g.fill(t)
		for range 4 {
			g.compare(w, m, met)
		}
		if t.Failed() {
			t.Fatalf("world %d: %+v", n, m)
		}
	}
	// What is not met is not tested.
	for _, what := range []string{"Reach", "Need", "Peel", "Ancestors", "Before", "Bases", "Order"} {
		for _, e := range []api.Errno{api.OK, api.ErrWalkMissing, api.ErrWalkKind, api.ErrWalkCommit} {
			never := e == api.ErrWalkCommit && slices.Contains([]string{"Reach", "Need", "Peel"}, what)
			if count := met[fmt.Sprint(what, e)]; count < 100 != never {
				t.Errorf("%s: %v is met %d times", what, e, count)
			}
		}
	}
	if met["Bases"] < 100 || met["true"] < 100 || met["false"] < 100 || met["Order"] < 100 {
		t.Errorf("too little is met: %v", met)
	}
}

// compare holds all calls against the model, and notes what has been met.
func (g *guess) compare(w world, m model, met map[string]int) {
	roots, others := g.some(1+g.r.Intn(4)), g.some(1+g.r.Intn(4))
	reached, e := m.reach(roots)
	w.reach("by chance", roots, reached, e)
	met[fmt.Sprint("Reach", e)]++
	w.missing("by chance", roots, m.missing(roots))
	needed, e := m.need(roots, others)
	w.need("by chance", roots, others, needed, e)
	met[fmt.Sprint("Need", e)]++

	a, b := g.one(), g.one()
	to, e := m.peel(a)
	w.peel("by chance", a, to, e)
	met[fmt.Sprint("Peel", e)]++
	list, e := m.ancestors(a)
	w.ancestors("by chance", a, list, e)
	met[fmt.Sprint("Ancestors", e)]++
	was, e := m.before(a, b)
	w.before("by chance", a, b, was, e)
	met[fmt.Sprint("Before", e)]++
	if e == api.OK && a != b {
		met[fmt.Sprint(was)]++
	}
	best, e := m.bases(a, b)
	w.bases("by chance", a, b, best, e)
	met[fmt.Sprint("Bases", e)]++
	if len(best) > 1 {
		met["Bases"]++
	}
	roots, others = append(g.some(3+g.r.Intn(2)), a), g.some(3+g.r.Intn(2))
	told, e := m.order(roots, others)
	w.order("by chance", roots, others, told, e)
	met[fmt.Sprint("Order", e)]++
	if len(told) > 3 && len(others) > 0 {
		met["Order"]++
	}
}
