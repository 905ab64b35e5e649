package vault

import (
	"fmt"
	"maps"
	"math/rand"
	"slices"
	"sort"
	"strings"
	"testing"

	"satchel/api"
	"satchel/object"
)

// plain is a vault's state by the chapter's words.
type plain struct {
	objects map[api.ID]string
	refs    map[string]api.ID
	logs    map[string][]api.Move
	notes   map[string]string
	number  uint64
}

func newPlain() plain {
	return plain{map[api.ID]string{}, map[string]api.ID{}, map[string][]api.Move{}, map[string]string{}, 0}
}

func (p plain) copied() plain {
	q := plain{maps.Clone(p.objects), maps.Clone(p.refs), map[string][]api.Move{}, maps.Clone(p.notes), p.number}
	for name, log := range p.logs {
		q.logs[name] = slices.Clone(log)
	}
	return q
}

// seen tells the state as seen tells that of a vault.
func (p plain) seen() string {
	var s strings.Builder
	fmt.Fprintln(&s, "number", p.number)
	for _, id := range sortedBy(slices.Collect(maps.Keys(p.objects))...) {
		fmt.Fprintf(&s, "object %x %x %v %v\n", id, p.objects[id], nil, true)
	}
	for _, name := range slices.Sorted(maps.Keys(p.refs)) {
		fmt.Fprintf(&s, "ref %q %x %x %v\n", name, p.refs[name], p.refs[name], true)
		for _, m := range p.logs[name] {
			fmt.Fprintf(&s, "  %d %x %x\n", m.Number, m.Old, m.New)
		}
	}
	for _, key := range slices.Sorted(maps.Keys(p.notes)) {
		fmt.Fprintf(&s, "note %q %x %v %v\n", key, p.notes[key], true, true)
	}
	return s.String()
}

// apply tells the answer to a transaction, and the state behind it.
func (p plain) apply(t api.Txn) (plain, api.Errno, []api.ID) {
	q := p.copied()
	for _, enc := range t.Objects {
		if _, e := object.Parse(enc); e != api.OK {
			return p, api.ErrVaultObject, nil
		}
		q.objects[idOf(string(enc))] = string(enc)
	}
	if e, ids := q.children(t); e != api.OK {
		return p, e, ids
	}
	for i, r := range t.Refs {
		at, there := p.refs[r.Name]
		_, target := q.objects[r.New]
		switch {
		case len(r.Name) == 0 || len(r.Name) > 255:
			return p, api.ErrVaultName, nil
		case slices.ContainsFunc(t.Refs[:i], func(o api.RefChange) bool { return o.Name == r.Name }):
			return p, api.ErrVaultTwice, nil
		case there && at != r.Old:
			return p, api.ErrVaultOld, []api.ID{at}
		case !there && r.Old != none:
			return p, api.ErrVaultOld, nil
		case r.New != none && !target:
			return p, api.ErrVaultTarget, []api.ID{r.New}
		}
		q.move(r)
	}
	for i, n := range t.Notes {
		switch {
		case len(n.Key) == 0 || len(n.Key) > 255 || len(n.Value) > 1<<20:
			return p, api.ErrVaultNote, nil
		case slices.ContainsFunc(t.Notes[:i], func(o api.Note) bool { return o.Key == n.Key }):
			return p, api.ErrVaultTwice, nil
		}
		q.notes[n.Key] = string(n.Value)
		if len(n.Value) == 0 {
			delete(q.notes, n.Key)
		}
	}
	if q.seen() == p.seen() {
		return p, api.OK, nil
	}
	q.number++
	return q, api.OK, nil
}

func (p plain) move(r api.RefChange) {
	if r.New == none {
		delete(p.refs, r.Name)
		delete(p.logs, r.Name)
		return
	}
	if r.New != r.Old {
		log := append(p.logs[r.Name], api.Move{Number: p.number + 1, Old: r.Old, New: r.New})
		p.logs[r.Name] = log[max(0, len(log)-64):]
		p.refs[r.Name] = r.New
	}
}

// children tells what is wrong with the children of a transaction's objects, all of which are in the state.
func (p plain) children(t api.Txn) (api.Errno, []api.ID) {
	missing, odd := map[api.ID]int{}, map[api.ID]int{}
	for _, enc := range t.Objects {
		links, _ := object.Children(enc)
		for _, l := range links {
			if child, there := p.objects[l.ID]; !there {
				missing[l.ID]++
			} else if int(child[0]) != l.Kind {
				odd[l.ID]++
			}
		}
	}
	switch {
	case len(missing) > 0:
		return api.ErrVaultMissing, slices.Collect(maps.Keys(missing))
	case len(odd) > 0:
		return api.ErrVaultKind, slices.Collect(maps.Keys(odd))
	}
	return api.OK, nil
}

// swept tells the state without what no ref leads to.
func (p plain) swept() plain {
	q := p.copied()
	q.objects = map[api.ID]string{}
	var reach func(id api.ID)
	reach = func(id api.ID) {
		q.objects[id] = p.objects[id]
		links, _ := object.Children([]byte(p.objects[id]))
		for _, l := range links {
			reach(l.ID)
		}
	}
	for _, id := range p.refs {
		reach(id)
	}
	return q
}

// pool tells the objects of the drawn transactions: most of them are right, where their children are.
func pool() []string {
	one, two, three := blobOf("1"), blobOf("2"), blobOf("3")
	t1, t2 := treeOf(api.ModeFile, idOf(one)), treeOf(api.ModeRun, idOf(two), api.ModeFile, idOf(one))
	t3 := treeOf(api.ModeTree, idOf(t1), api.ModeLink, idOf(three))
	c1 := commitOf(idOf(t1), "1")
	c2 := commitOf(idOf(t3), "2", idOf(c1))
	c3 := commitOf(idOf(t2), "3", idOf(c2), idOf(c1))
	g1 := tagOf(idOf(c2), api.KindCommit, "g")
	return []string{one, two, three, t1, t2, t3, c1, c2, c3, g1, tagOf(idOf(g1), api.KindTag, "h"), tagOf(idOf(one), api.KindBlob, "i")}
}

func drawnTxn(r *rand.Rand, p plain) api.Txn {
	var t api.Txn
	list := pool()
	begin := r.Intn(len(list))
	for _, enc := range list[begin:min(len(list), begin+r.Intn(4))] {
		t.Objects = append(t.Objects, []byte(enc))
	}
	if r.Intn(4) == 0 {
		for _, enc := range list { // all, so that nothing is missing
			t.Objects = append(t.Objects, []byte(enc))
		}
	}
	switch r.Intn(40) {
	case 0:
		t.Objects = append(t.Objects, []byte("\x09"))
	case 1:
		t.Objects = append(t.Objects, []byte(treeOf(api.ModeTree, idOf(list[0]), api.ModeFile, idOf(list[3]), api.ModeFile, idOf(list[r.Intn(len(list))]))))
	case 2:
		t.Objects = append(t.Objects, []byte(treeOf(api.ModeFile, api.ID{byte(r.Intn(2))}, api.ModeTree, api.ID{9})))
	}
	r.Shuffle(len(t.Objects), func(i, k int) { t.Objects[i], t.Objects[k] = t.Objects[k], t.Objects[i] })
	for range r.Intn(4) {
		t.Refs = append(t.Refs, drawnRef(r, p, list))
	}
	for range r.Intn(4) {
		t.Notes = append(t.Notes, note(drawnName(r), strings.Repeat("v", r.Intn(4))))
	}
	return t
}

func drawnRef(r *rand.Rand, p plain, list []string) api.RefChange {
	one := ref(drawnName(r), none, none)
	one.Old = p.refs[one.Name]
	switch r.Intn(12) {
	case 0:
		one.Old = idOf(list[r.Intn(len(list))])
	case 1:
		one.New = api.ID{9}
	case 2:
		one.New = idOf(list[r.Intn(len(list))]) // there or not
	case 3:
		one.New = one.Old
	case 4: // it goes
	default:
		for id := range p.objects {
			if one.New == none || r.Intn(2) == 0 {
				one.New = id
			}
		}
	}
	return one
}

func drawnName(r *rand.Rand) string {
	switch r.Intn(60) {
	case 0:
		return ""
	case 1:
		return strings.Repeat("n", 256)
	case 2:
		return strings.Repeat("n", 255)
	}
	return string(rune('a' + r.Intn(6)))
}

// TestDrawn holds drawn rows of calls against the model, through full disks and many crashes.
func TestDrawn(t *testing.T) { // P13.1 to P13.7
	met := map[api.Errno]int{}
	for seed := range 150 {
		r := rand.New(rand.NewSource(int64(seed)))
		d := loaded(t, 6000, nil)
		v, p := opened(t, d), newPlain()
		for step := range 120 {
			what := fmt.Sprintf("seed %d, step %d", seed, step)
			planned := r.Intn(5) == 0
			if planned {
				from := 1 + r.Intn(3)
				d.Plan(api.Plan{Off: r.Intn(7), FullFrom: from, FullTo: from + r.Intn(2)})
			}
			q, want, ids := p, api.OK, []api.ID(nil)
			var err error
			switch r.Intn(10) {
			case 0:
				err = v.Compact()
			case 1:
				q = p.swept()
				err = v.Sweep()
			default:
				one := drawnTxn(r, p)
				q, want, ids = p.apply(one)
				err = v.Apply(one)
			}
			met[api.Code(err)]++
			switch n := api.Code(err); {
			case want == api.OK && n == api.ErrDiskOff && planned:
				holds(t, what+", off", v, p.seen())
				img := d.Crash([]int{r.Intn(5), r.Intn(2000), r.Intn(2000)})
				d = loaded(t, 9000, img)
				v = opened(t, d)
				if got := seen(v); got != p.seen() && got != q.seen() {
					t.Fatalf("%s: %s is left", what, got)
				} else if got == q.seen() {
					p = q
				}
			case want == api.OK && n == api.ErrDiskFull:
				holds(t, what+", full", v, p.seen())
			default:
				sort.Slice(ids, func(i, k int) bool { return string(ids[i][:]) < string(ids[k][:]) })
				answers(t, what, err, want, ids...)
				p = q
			}
			d.Plan(api.Plan{})
			holds(t, what, v, p.seen())
			if r.Intn(10) == 0 {
				answers(t, what+", Check", v.Check(), api.OK)
				v = opened(t, d)
				holds(t, what+", opened", v, p.seen())
			}
			if t.Failed() {
				return
			}
		}
	}
	for _, n := range []api.Errno{api.OK, api.ErrVaultObject, api.ErrVaultMissing, api.ErrVaultKind, api.ErrVaultName, api.ErrVaultTwice, api.ErrVaultOld, api.ErrVaultTarget, api.ErrVaultNote, api.ErrDiskOff, api.ErrDiskFull} {
		if met[n] < 20 {
			t.Errorf("%d is met %d times", n, met[n])
		}
	}
}
