package entry

import (
	"cmp"
	"fmt"
	"maps"
	"math/rand"
	"slices"
	"strings"
	"testing"

	"satchel/api"
	"satchel/object"
	"satchel/refs"
	"satchel/vault"
)

// plainSource is what is kept of a source, by the chapter's words.
type plainSource struct {
	numbers map[uint64]int
	stamps  map[string]api.Stamp
	targets map[string]int
}

// plain is a vault by the chapter's words, over a world's objects.
type plain struct {
	w       *world
	kept    map[api.ID]int
	refs    map[string]api.ID
	sources map[string]*plainSource
}

func (p *plain) source(name string) *plainSource {
	if p.sources[name] == nil {
		p.sources[name] = &plainSource{numbers: map[uint64]int{}, stamps: map[string]api.Stamp{}, targets: map[string]int{}}
	}
	return p.sources[name]
}

func (p *plain) has(id api.ID) bool { return p.kept[id] > 0 }

// verify tells what bundle.Verify does of right packs of whole objects.
func (p *plain) verify(h api.Header, objs []api.ID) (api.Errno, []api.ID) {
	there := func(id api.ID) bool { return p.has(id) || slices.Contains(objs, id) }
	var lost []api.ID
	for _, id := range objs {
		links, _ := object.Children(p.w.encs(id)[0])
		for _, link := range links {
			if !there(link.ID) || p.w.parsed(link.ID).Kind != link.Kind {
				lost = append(lost, link.ID)
			}
		}
	}
	if len(lost) > 0 {
		return api.ErrBundleClosure, sorted(lost...)
	}
	for _, stamp := range h.Stamps {
		if stamp.ID != none && !there(stamp.ID) {
			lost = append(lost, stamp.ID)
		}
	}
	if len(lost) > 0 {
		return api.ErrBundleRef, sorted(lost...)
	}
	return api.OK, nil
}

// refuses tells the error of the steps 2 to 6.
func (p *plain) refuses(me string, rules []api.Rule, h api.Header, objs []api.ID) (api.Errno, []api.ID) {
	if h.To != me {
		return api.ErrEntryFor, nil
	}
	missing := slices.DeleteFunc(slices.Clone(h.Basis), p.has)
	if len(missing) > 0 {
		return api.ErrEntryMissing, sorted(missing...)
	}
	if e, ids := p.verify(h, objs); e != api.OK {
		return e, ids
	}
	by := map[string]string{}
	names := slices.Collect(maps.Keys(p.source(h.From).stamps))
	for _, stamp := range h.Stamps {
		names = append(names, stamp.Name)
	}
	for _, name := range names {
		target, _, ok := refs.Map(rules, name)
		if ok && by[target] != "" && by[target] != name {
			return api.ErrEntryClash, nil
		}
		by[target] = name
	}
	for _, stamp := range h.Stamps {
		target, _, ok := refs.Map(rules, stamp.Name)
		for name, other := range p.sources {
			if ok && name != h.From && other.targets[target] > 0 {
				return api.ErrEntryFrom, nil
			}
		}
	}
	return api.OK, nil
}

func (p *plain) how(rule bool, stamp, best api.Stamp, old api.ID) int {
	switch {
	case old == stamp.ID:
		return api.HowSame
	case stamp != best:
		return api.HowStale
	case stamp.ID == none:
		return api.HowGone
	case old == none:
		return api.HowMade
	case p.w.isBefore(old, stamp.ID):
		return api.HowForward
	case rule:
		return api.HowForced
	}
	return api.HowKept
}

// take carries a bundle out that is not refused.
func (p *plain) take(rules []api.Rule, h api.Header, objs []api.ID) api.Result {
	s := p.source(h.From)
	r := api.Result{From: h.From, Seq: h.Seq, Again: s.numbers[h.Seq] > 0}
	s.numbers[h.Seq] = 1
	for _, id := range sorted(objs...) {
		if !p.has(id) {
			r.Objects++
			p.kept[id] = 1
		}
	}
	for _, stamp := range h.Stamps {
		was, known := s.stamps[stamp.Name]
		if !known || stamp.Seq > was.Seq || stamp.Seq == was.Seq && string(stamp.ID[:]) > string(was.ID[:]) {
			s.stamps[stamp.Name] = stamp
		}
		target, forced, ok := refs.Map(rules, stamp.Name)
		if !ok {
			continue
		}
		s.targets[target] = 1
		m := api.Moved{Name: target, Old: p.refs[target], New: stamp.ID}
		m.How = p.how(forced, stamp, s.stamps[stamp.Name], m.Old)
		r.Refs = append(r.Refs, m)
		switch m.How {
		case api.HowGone:
			delete(p.refs, target)
		case api.HowMade, api.HowForward, api.HowForced:
			p.refs[target] = stamp.ID
		}
	}
	slices.SortFunc(r.Refs, func(a, b api.Moved) int { return cmp.Compare(a.Name, b.Name) })
	return r
}

// holds looks whether a vault has just what the model has.
func (p *plain) holds(t *testing.T, what string, v *vault.Vault) {
	t.Helper()
	if want := sorted(slices.Collect(maps.Keys(p.kept))...); !slices.Equal(v.Ids(), want) {
		t.Errorf("%s: the objects %.4x, want %.4x", what, v.Ids(), want)
	}
	var list []api.Ref
	for _, name := range slices.Sorted(maps.Keys(p.refs)) {
		list = append(list, api.Ref{Name: name, ID: p.refs[name]})
	}
	if !slices.Equal(v.Refs(), list) {
		t.Errorf("%s: the refs %.4x, want %.4x", what, v.Refs(), list)
	}
	notes := 0
	for name, s := range p.sources {
		accepts(t, what, v, name, slices.Sorted(maps.Keys(s.numbers))...)
		if len(s.numbers) > 0 {
			notes++
			noteFits(t, v, name, len(s.numbers), slices.Collect(maps.Keys(s.stamps)), slices.Collect(maps.Keys(s.targets)))
		}
	}
	if len(v.Notes()) != notes {
		t.Errorf("%s: %d notes, want %d", what, len(v.Notes()), notes)
	}
}

// drawn is a run of calls that are drawn.
type drawn struct {
	*rand.Rand
	p      *plain
	v      *vault.Vault
	things []api.ID
	rules  [][]api.Rule
}

func newDrawn(t *testing.T, seed int64) *drawn {
	t.Helper()
	w := newWorld()
	d := &drawn{Rand: rand.New(rand.NewSource(seed)), v: newVault(t), things: w.things()}
	put(w.s, commit(w.b, "odd"))
	d.p = &plain{w: w, kept: map[api.ID]int{}, refs: map[string]api.ID{}, sources: map[string]*plainSource{}}
	d.rules = [][]api.Rule{
		rulesOf("+heads/*:far/* tags/*:tags/*"),
		rulesOf("heads/*:far/* +tags/*:tags/* top:top ^heads/no*"),
		rulesOf("heads/a:far/b heads/b:far/a *:x/*"),
		rulesOf("heads/*:all/* tags/*:all/*"),
		nil,
	}
	return d
}

func (d *drawn) thing() api.ID { return d.things[d.Intn(len(d.things))] }

// header draws what a bundle says.
func (d *drawn) header() api.Header {
	h := api.Header{From: []string{"home", "home", "other", "third"}[d.Intn(4)], To: "away", Seq: uint64(1 + d.Intn(9))}
	if d.Intn(20) == 0 {
		h.To = "else"
	}
	for range d.Intn(3) {
		id := d.thing()
		if d.p.has(id) || d.Intn(12) == 0 {
			h.Basis = append(h.Basis, id)
		}
	}
	h.Basis = sorted(h.Basis...)
	for _, name := range []string{"heads/a", "heads/b", "heads/no", "tags/a", "tags/v", "top"} {
		stamp := api.Stamp{Name: name, Seq: uint64(1 + d.Intn(int(h.Seq)))}
		if d.Intn(3) > 0 {
			continue
		}
		if d.Intn(4) > 0 {
			stamp.ID = d.thing()
		}
		if d.Intn(60) == 0 {
			stamp.ID = all(77)
		}
		h.Stamps = append(h.Stamps, stamp)
	}
	return h
}

// brought draws what a bundle brings: what it must, or more, or less.
func (d *drawn) brought(h api.Header) []api.ID {
	var objs []api.ID
	for _, stamp := range h.Stamps {
		if d.p.w.s.Has(stamp.ID) {
			objs = append(objs, d.p.w.reach(stamp.ID)...)
		}
	}
	objs = sorted(objs...)
	switch d.Intn(6) {
	case 0:
		objs = append(objs, d.p.w.reach(d.thing())...)
	case 1:
		if len(objs) > 0 {
			objs = slices.Delete(objs, 0, 1+d.Intn(min(2, len(objs))))
		}
	case 2, 3:
		objs = slices.DeleteFunc(objs, d.p.has)
	}
	if d.Intn(30) == 0 {
		objs = append(objs, d.p.w.s.Ids()...)
	}
	return sorted(objs...)
}

// others lets another hand do something.
func (d *drawn) others(t *testing.T) {
	switch d.Intn(12) {
	case 0, 1:
		id := d.thing()
		name := []string{"far/a", "far/b", "tags/v", "x/top", "all/a"}[d.Intn(5)]
		if d.p.has(id) {
			moveTo(t, d.v, name, id)
			d.p.refs[name] = id
		}
	case 2:
		for _, name := range slices.Sorted(maps.Keys(d.p.refs))[:min(1, len(d.p.refs))] {
			moveTo(t, d.v, name, none)
			delete(d.p.refs, name)
		}
	case 3:
		if d.Intn(4) > 0 {
			return
		}
		answers(t, "Sweep", d.v.Sweep(), api.OK)
		held := map[api.ID]int{}
		for _, id := range d.p.refs {
			for _, one := range d.p.w.reach(id) {
				held[one] = 1
			}
		}
		d.p.kept = held
	}
}

// one imports what is drawn, and tells how it went.
func (d *drawn) one(t *testing.T, what string, met map[string]int) {
	h := d.header()
	objs := d.brought(h)
	rules := d.rules[0]
	if d.Intn(3) == 0 {
		rules = d.rules[d.Intn(len(d.rules))]
	}
	data := d.p.w.brings(h, objs...)
	e, ids := d.p.refuses("away", rules, h, objs)
	met[fmt.Sprint(e)]++
	if e != api.OK {
		refuses(t, what, d.v, rules, data, e, ids...)
		return
	}
	want := d.p.take(rules, h, objs)
	r, err := Check(d.v, "away", []byte("k"), rules, data)
	answers(t, what+": Check", err, api.OK)
	again, err := Import(d.v, "away", []byte("k"), rules, data)
	answers(t, what, err, api.OK)
	if !sameResult(r, want) || !sameResult(again, want) {
		t.Errorf("%s: %s, %s, want %s", what, told(r), told(again), told(want))
	}
	for _, m := range want.Refs {
		met[fmt.Sprint("how ", m.How)]++
	}
	d.p.holds(t, what, d.v)
	was := seen(d.v)
	r, err = Import(d.v, "away", []byte("k"), rules, data)
	answers(t, what+" again", err, api.OK)
	if !r.Again || r.Objects != 0 || moves(r) || seen(d.v) != was {
		t.Errorf("%s: again: %s", what, told(r))
	}
}

func TestDrawn(t *testing.T) { // P17.1 to P17.4, P17.6, P17.7
	met := map[string]int{}
	for seed := range int64(150) {
		d := newDrawn(t, seed)
		for i := range 60 {
			d.one(t, fmt.Sprintf("run %d, call %d", seed, i), met)
			d.others(t)
		}
		closed(t, "a run", d.v)
		if t.Failed() {
			return
		}
	}
	for _, what := range []any{api.OK, api.ErrEntryFor, api.ErrEntryMissing, api.ErrEntryClash, api.ErrEntryFrom, api.ErrBundleClosure, api.ErrBundleRef} {
		if met[fmt.Sprint(what)] < 20 {
			t.Errorf("%v is met %d times", what, met[fmt.Sprint(what)])
		}
	}
	for how := api.HowMade; how <= api.HowKept; how++ {
		if met[fmt.Sprint("how ", how)] < 40 {
			t.Errorf("how %d is met %d times", how, met[fmt.Sprint("how ", how)])
		}
	}
}

func TestAnyBytes(t *testing.T) { // P17.7: whatever comes in, there is an answer, and the vault is closed
	r := rand.New(rand.NewSource(7))
	w := newWorld()
	b1, b2, b3 := w.examples()
	v := newVault(t)
	met := map[api.Errno]int{}
	give := func(data []byte) {
		t.Helper()
		was := seen(v)
		_, err := Import(v, "away", []byte("k"), exampleRules, data)
		met[api.Code(err)]++
		answers(t, fmt.Sprintf("%.60x", data), err, api.Code(err), idsOf(append(faultsOf(err), &api.Fault{}))[0]...)
		if err == nil {
			closed(t, "any bytes", v)
		} else if seen(v) != was {
			t.Errorf("%.60x: refused, and the vault is another", data)
		}
	}
	for n := range 200 {
		data := make([]byte, r.Intn(n+1))
		r.Read(data)
		give(data)
		give(seal(data, "k"))
	}
	for range 3000 {
		data := slices.Clone([][]byte{b1, b2, b3}[r.Intn(3)])
		body := data[:len(data)-32]
		if r.Intn(200) == 0 {
			give(data)
		}
		switch r.Intn(4) {
		case 0:
			body = body[:r.Intn(len(body))]
		case 1:
			body = slices.Insert(body, r.Intn(len(body)+1), byte(r.Intn(256)))
		default:
			for range 1 + r.Intn(2) {
				body[r.Intn(len(body))] ^= 1 << r.Intn(8)
			}
		}
		give(seal(body, "k"))
	}
	for _, e := range []api.Errno{api.OK, api.ErrBundleSeal, api.ErrBundleForm, api.ErrBundleName, api.ErrEntryFor, api.ErrEntryMissing, api.ErrPackSum} {
		if met[e] < 5 {
			t.Errorf("%v is met %d times", e, met[e])
		}
	}
}

func TestSealedPacks(t *testing.T) { // P17.7: a seal that is right, over objects that are not
	r := rand.New(rand.NewSource(8))
	w := newWorld()
	w.things()
	lone := put(w.s, blob("lone"))
	met := map[api.Errno]int{}
	for range 600 {
		v := newVault(t)
		has(t, v, api.Txn{Objects: w.encs(w.b, w.t, w.c)})
		var objs [][]byte
		for _, id := range w.s.Ids() {
			enc := w.encs(id)[0]
			switch r.Intn(40) {
			case 0, 1:
				continue
			case 2:
				enc[r.Intn(len(enc))] ^= 1 << r.Intn(8)
			case 3:
				enc = enc[:r.Intn(len(enc))]
			case 4:
				objs = append(objs, []byte("\x01more"), enc)
			}
			if len(objs) == 0 || r.Intn(30) > 0 {
				objs = append(objs, enc)
			}
		}
		p := packOf(objs...)
		if r.Intn(20) == 0 {
			p[r.Intn(len(p))] ^= 1
		}
		_, err := Import(v, "away", []byte("k"), exampleRules, lay(head(1, ids(w.c), stamps("heads/a", w.d, 1, "heads/b", lone, 1)), p, "k"))
		met[api.Code(err)]++
		closed(t, "a forged pack", v)
		if err != nil && v.Number() != 1 {
			t.Errorf("%v, and the number is %d", err, v.Number())
		}
	}
	for _, e := range []api.Errno{api.OK, api.ErrPackSum, api.ErrPackObject, api.ErrBundleClosure, api.ErrBundleRef} {
		if met[e] < 5 {
			t.Errorf("%v is met %d times: %v", e, met[e], met)
		}
	}
}

func TestRulesOfAnyKind(t *testing.T) { // P17.7, R1: rules may be any plain data
	w := newWorld()
	list := stamps("heads/a", w.c, 1, "heads/b", w.c, 1, "x", none, 1)
	for _, rules := range [][]api.Rule{
		{{}}, {{Src: "*", Dst: ""}}, {{Src: "", Dst: "*"}}, {{Src: "*", Dst: "*"}}, {{Src: "*", Dst: "x"}}, {{Src: "heads/a", Dst: "\xff"}},
		{{Src: "*", Dst: strings.Repeat("y", 300) + "*"}}, {{Not: true}}, {{Src: "*", Not: true}, {Src: "*", Dst: "far/*"}},
		slices.Repeat([]api.Rule{{Src: "heads/*", Dst: "a//*"}}, 20000),
	} {
		v := newVault(t)
		r, err := Import(v, "away", []byte("k"), rules, w.brings(head(1, nil, list), w.b, w.t, w.c))
		if err != nil || len(r.Refs) != 0 && r.Refs[0].Name != "heads/a" {
			t.Errorf("%.80v: %s, %v", rules, told(r), err)
		}
		closed(t, "rules of any kind", v)
	}
}
