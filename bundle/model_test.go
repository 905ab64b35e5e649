package bundle

import (
	"bytes"
	"encoding/binary"
	"fmt"
	"math/rand"
	"regexp"
	"slices"
	"testing"

	"satchel/api"
	"satchel/object"
	"satchel/refs"
	"satchel/store"
)

var siteName = regexp.MustCompile(`^[a-z0-9_.-]{1,64}$`)

// model is objects by their ids, and the chapter's words on them in the plainest way.
type model map[api.ID]api.Object

func (m model) links(id api.ID) []api.Link {
	o := m[id]
	var links []api.Link
	switch o.Kind {
	case api.KindTree:
		for _, entry := range o.Entries {
			kind := api.KindBlob
			if entry.Mode == api.ModeTree {
				kind = api.KindTree
			}
			links = append(links, api.Link{ID: entry.ID, Kind: kind})
		}
	case api.KindCommit:
		links = append(links, api.Link{ID: o.Commit.Tree, Kind: api.KindTree})
		for _, parent := range o.Commit.Parents {
			links = append(links, api.Link{ID: parent, Kind: api.KindCommit})
		}
	case api.KindTag:
		links = append(links, api.Link{ID: o.Tag.Target, Kind: o.Tag.Kind})
	}
	return links
}

func (m model) has(id api.ID) bool { return m[id].Kind != api.KindNone }

// reach tells all that is come to from some ids, sorted.
func (m model) reach(begin ...api.ID) []api.ID {
	set := sorted(begin...)
	for i := 0; i < len(set); i++ {
		for _, link := range m.links(set[i]) {
			if !slices.Contains(set, link.ID) {
				set = append(set, link.ID)
			}
		}
	}
	return sorted(set...)
}

// open tells the children of some objects that are not there, or not of the kind that is wanted, sorted.
func (m model) open(ids ...api.ID) []api.ID {
	var open []api.ID
	for _, id := range ids {
		for _, link := range m.links(id) {
			if m[link.ID].Kind != link.Kind {
				open = append(open, link.ID)
			}
		}
	}
	return sorted(open...)
}

// less tells the ids of a list that are not in another one.
func less(ids []api.ID, others []api.ID) []api.ID {
	return slices.DeleteFunc(slices.Clone(ids), func(id api.ID) bool { return slices.Contains(others, id) })
}

func (m model) absent(ids []api.ID) []api.ID {
	return slices.DeleteFunc(sorted(ids...), m.has)
}

func (m model) stampsOff(h api.Header, there []api.ID) []api.ID {
	var ids []api.ID
	for _, stamp := range h.Stamps {
		if stamp.ID != (api.ID{}) {
			ids = append(ids, stamp.ID)
		}
	}
	return less(sorted(ids...), there)
}

func goodNames(h api.Header) bool {
	good := siteName.MatchString(h.From) && siteName.MatchString(h.To)
	for _, stamp := range h.Stamps {
		good = good && refs.Check(stamp.Name) == api.OK
	}
	return good
}

func goodForm(h api.Header) bool {
	good := h.Seq > 0 && h.Seq <= 1<<40
	for i, stamp := range h.Stamps {
		good = good && stamp.Seq > 0 && stamp.Seq <= h.Seq && (i == 0 || h.Stamps[i-1].Name < stamp.Name)
	}
	for i := range h.Basis {
		good = good && (i == 0 || bytes.Compare(h.Basis[i-1][:], h.Basis[i][:]) < 0)
	}
	return good
}

// make tells Make's error, or the ids that the pack holds.
func (m model) make(h api.Header, want, have []api.ID) (api.Errno, []api.ID) {
	reached := m.reach(slices.Concat(want, have)...)
	lost := m.absent(reached)
	h.Basis = nil
	switch {
	case !goodNames(h):
		return api.ErrBundleName, nil
	case !goodForm(h):
		return api.ErrBundleForm, nil
	case len(lost) > 0 || len(m.open(reached...)) > 0:
		return api.ErrBundleWant, lost
	case len(m.stampsOff(h, reached)) > 0:
		return api.ErrBundleRef, m.stampsOff(h, reached)
	}
	return api.OK, less(m.reach(want...), m.reach(have...))
}

// verify tells Verify's error of a bundle whose pack brings some objects, some of them told by bases, all data being right.
func (m model) verify(kept, brought, needs []api.ID, h api.Header) (api.Errno, []api.ID) {
	there := model{}
	for _, id := range slices.Concat(kept, brought) {
		there[id] = m[id]
	}
	lost, bare := less(sorted(h.Basis...), kept), less(sorted(needs...), kept)
	switch {
	case len(lost) > 0:
		return api.ErrBundleBasis, lost
	case len(bare) > 0:
		return api.ErrPackBase, bare
	case len(there.open(brought...)) > 0:
		return api.ErrBundleClosure, there.open(brought...)
	}
	if off := m.stampsOff(h, slices.Concat(kept, brought)); len(off) > 0 {
		return api.ErrBundleRef, off
	}
	return api.OK, nil
}

// guess draws worlds, headers and bundles.
type guess struct {
	*rand.Rand
	m    model
	s    *store.Store
	ids  []api.ID // in which each object stands behind its children
	rate int      // of how many things one is odd; 0: none
}

func (g *guess) odd() bool { return g.rate > 0 && g.Intn(g.rate) == 0 }

// one draws an id, mostly of an object of a kind.
func (g *guess) one(kind int) api.ID {
	var fit []api.ID
	for _, id := range g.ids {
		if g.m[id].Kind == kind || kind == api.KindNone || g.odd() {
			fit = append(fit, id)
		}
	}
	if len(fit) == 0 || g.odd() {
		return all(byte(g.Intn(256)))
	}
	return fit[g.Intn(len(fit))]
}

// some draws a few ids, in any order, some of them twice.
func (g *guess) some(most int) []api.ID {
	var list []api.ID
	for range g.Intn(most + 1) {
		list = append(list, g.one(api.KindNone))
	}
	return list
}

func (g *guess) object() api.Object {
	switch 1 + g.Intn(4) {
	case api.KindTree:
		o := tree()
		for i := range g.Intn(4) {
			entry := api.Entry{Mode: 1 + g.Intn(4), Name: fmt.Sprint(i)}
			entry.ID = g.one(api.KindBlob)
			if entry.Mode == api.ModeTree {
				entry.ID = g.one(api.KindTree)
			}
			o.Entries = append(o.Entries, entry)
		}
		return o
	case api.KindCommit:
		var parents []api.ID
		for range g.Intn(3) {
			if id := g.one(api.KindCommit); g.m[id].Kind == api.KindCommit || g.rate > 0 {
				parents = append(parents, id)
			}
		}
		return commit(g.one(api.KindTree), fmt.Sprint(g.Int()), slices.Compact(parents)...)
	case api.KindTag:
		kind := 1 + g.Intn(4)
		return tag(g.one(kind), kind)
	}
	return blob(noise(g.Intn(200), 7) + fmt.Sprint(g.Int()))
}

// newGuess draws objects; where nothing is odd all that they name is there.
func newGuess(r *rand.Rand, rate int) *guess {
	g := &guess{Rand: r, rate: rate, m: model{}, s: store.New()}
	for range 2 + r.Intn(14) {
		o := g.object()
		enc := encoded(o)
		if open := (model{idOf(enc): o}).links(idOf(enc)); rate == 0 && slices.ContainsFunc(open, func(l api.Link) bool { return g.m[l.ID].Kind != l.Kind }) {
			continue
		}
		if id := put(g.s, o); !g.m.has(id) {
			g.m[id] = o
			g.ids = append(g.ids, id)
		}
	}
	return g
}

func (g *guess) enc(id api.ID) []byte { return encoded(g.m[id]) }

func (g *guess) encs(ids ...api.ID) [][]byte { return (&world{s: g.s}).encs(ids...) }

func (g *guess) part(ids ...api.ID) *store.Store { return (&world{s: g.s}).part(ids...) }

// header draws one.
func (g *guess) header(ids ...api.ID) api.Header {
	h := api.Header{From: "home", To: "away", Seq: 1 + uint64(g.Intn(3)), Basis: g.some(3)}
	if g.odd() {
		h.To = []string{"", "A", "a b", "é"}[g.Intn(4)]
	}
	if g.odd() {
		h.Seq = []uint64{0, 1<<40 + 1, 1 << 40}[g.Intn(3)]
	}
	for i := range g.Intn(4) {
		stamp := api.Stamp{Name: fmt.Sprint("heads/", i), Seq: 1 + uint64(g.Int63n(int64(max(1, h.Seq))))}
		if len(ids) > 0 && g.Intn(3) > 0 {
			stamp.ID = ids[g.Intn(len(ids))]
		}
		if g.odd() {
			stamp.ID = g.one(api.KindNone)
		}
		if g.odd() {
			stamp.Seq = []uint64{0, h.Seq + 1}[g.Intn(2)]
		}
		if g.odd() {
			stamp.Name = []string{"", "heads/0", "a//", "A", "heads/9"}[g.Intn(5)]
		}
		h.Stamps = append(h.Stamps, stamp)
	}
	return h
}

func TestMakeAgainstTheModel(t *testing.T) { // P15.3, P15.4
	met := map[api.Errno]int{}
	leans := 0
	for n := range 4000 {
		g := newGuess(rand.New(rand.NewSource(int64(n))), []int{0, 30, 12}[n%3])
		want, have := g.some(4), g.some(3)
		h := g.header(slices.DeleteFunc(g.m.reach(slices.Concat(want, have)...), func(api.ID) bool { return g.Intn(5) == 0 })...)
		if g.Intn(6) == 0 {
			h.Stamps = append(h.Stamps, api.Stamp{Name: "tags/x", ID: g.one(api.KindNone), Seq: 1})
		}
		e, ids := g.m.make(h, want, have)
		what := fmt.Sprintf("world %d", n)
		met[e]++
		if e != api.OK {
			unmade(t, what, g.s, h, want, have, e, ids...)
			continue
		}
		x := makes(t, what, g.s, h, want, have)
		if got := idsOf(t, x.Pack); !slices.Equal(got, ids) {
			t.Errorf("%s: the pack holds %.4x, want %.4x", what, got, ids)
		}
		needs := needsOf(t, x.Pack)
		if len(less(needs, g.m.reach(have...))) > 0 {
			t.Errorf("%s: the pack leans on %.4x", what, needs)
		}
		leans += len(needs)
		g.carried(t, what, x, want, have)
	}
	for _, e := range []api.Errno{api.OK, api.ErrBundleName, api.ErrBundleForm, api.ErrBundleWant, api.ErrBundleRef} {
		if met[e] < 100 {
			t.Errorf("%v is met %d times", e, met[e])
		}
	}
	if leans < 100 {
		t.Errorf("packs lean %d times", leans)
	}
}

// carried looks what a bundle that Make gave is over closed stores that have its prerequisites.
func (g *guess) carried(t *testing.T, what string, x api.Bundle, want, have []api.ID) {
	t.Helper()
	for _, more := range [][]api.ID{nil, g.some(3), g.ids} {
		kept := slices.DeleteFunc(g.m.reach(slices.Concat(have, more)...), func(id api.ID) bool { return !g.m.has(id) })
		if len(g.m.open(kept...)) > 0 {
			continue // what else is drawn is not closed
		}
		s := g.part(kept...)
		verifies(t, what+", carried", s, x, g.encs(idsOf(t, x.Pack)...))
		encs, _ := Verify(s, x)
		for _, enc := range encs {
			s.Put(enc)
		}
		if len(less(g.m.reach(want...), s.Ids())) > 0 || len(g.m.open(s.Ids()...)) > 0 {
			t.Errorf("%s: the store is not closed, or lacks what is wanted", what)
		}
	}
}

func TestVerifyAgainstTheModel(t *testing.T) { // P15.2, P15.5
	met := map[api.Errno]int{}
	for n := range 4000 {
		g := newGuess(rand.New(rand.NewSource(int64(n))), []int{0, 40, 15}[n%3])
		var kept, brought, needs []api.ID
		var records []rec
		most := []int{12, 50}[n%2]
		for _, id := range g.ids {
			switch k := g.Intn(most); {
			case k == 0:
				continue // it is nowhere
			case k%2 == 1:
				kept = append(kept, id)
				continue
			case k == 2:
				kept = append(kept, id) // and brought
			}
			brought = append(brought, id)
			records = append(records, whole(g.enc(id)))
		}
		for i, r := range records {
			// A base of those that are kept, or of any that the pack doesn't bring.
			base := g.one(api.KindNone)
			if g.Intn(3) == 0 && g.m.has(base) && !slices.Contains(brought, base) {
				records[i] = thin(g.enc(base), g.enc(r.id))
				needs = append(needs, base)
			}
		}
		h := g.header(slices.Concat(kept, brought)...)
		if g.Intn(4) == 0 {
			h.Stamps = append(h.Stamps, api.Stamp{ID: g.one(api.KindNone)}, api.Stamp{ID: all(byte(g.Intn(256)))})
		}
		h.Basis = slices.DeleteFunc(g.some(3), func(id api.ID) bool { return !slices.Contains(kept, id) && !g.odd() })
		s := g.part(kept...)
		x := api.Bundle{Head: h, Pack: packBy(records...)}
		e, ids := g.m.verify(kept, brought, needs, h)
		met[e]++
		if e != api.OK {
			refuses(t, fmt.Sprint("world ", n), s, x, e, ids...)
			continue
		}
		verifies(t, fmt.Sprint("world ", n), s, x, g.encs(brought...))
	}
	for _, e := range []api.Errno{api.OK, api.ErrBundleBasis, api.ErrPackBase, api.ErrBundleClosure, api.ErrBundleRef} {
		if met[e] < 50 {
			t.Errorf("%v is met %d times", e, met[e])
		}
	}
}

// plainBytes is what is left to be read; bad: something was not there.
type plainBytes struct {
	left []byte
	bad  bool
}

func (p *plainBytes) raw(n uint64) []byte {
	if p.bad || n > uint64(len(p.left)) {
		p.bad = true
		return nil
	}
	text := p.left[:n]
	p.left = p.left[n:]
	return text
}

func (p *plainBytes) id() (id api.ID) {
	copy(id[:], p.raw(32))
	return id
}

func (p *plainBytes) number() uint64 {
	n, size := binary.Uvarint(p.left)
	if size <= 0 || len(binary.AppendUvarint(nil, n)) != size {
		p.bad = true
		return 0
	}
	p.raw(uint64(size))
	return n
}

func (p *plainBytes) u64() uint64 {
	if b := p.raw(8); !p.bad {
		return binary.BigEndian.Uint64(b)
	}
	return 0
}

func (p *plainBytes) text() string { return string(p.raw(p.number())) }

// plainParse reads a bundle without its seal by the words of 'The form' and P15.1.
func plainParse(b []byte) (api.Bundle, api.Errno) {
	p := &plainBytes{left: b}
	var x api.Bundle
	if string(p.raw(5)) != "SBDL\x01" {
		p.bad = true
	}
	x.Head.From, x.Head.To, x.Head.Seq = p.text(), p.text(), p.u64()
	for n := p.number(); n > 0 && !p.bad; n-- {
		x.Head.Basis = append(x.Head.Basis, p.id())
	}
	for n := p.number(); n > 0 && !p.bad; n-- {
		x.Head.Stamps = append(x.Head.Stamps, api.Stamp{Name: p.text(), ID: p.id(), Seq: p.u64()})
	}
	x.Pack = []byte(p.text())
	switch {
	case p.bad || len(p.left) > 0 || !goodForm(x.Head):
		return api.Bundle{}, api.ErrBundleForm
	case !goodNames(x.Head):
		return api.Bundle{}, api.ErrBundleName
	case len(x.Head.Basis) > 256 || len(x.Head.Stamps) > 512:
		return api.Bundle{}, api.ErrBundleMany
	}
	return x, api.OK
}

func TestParseAgainstTheModel(t *testing.T) { // P15.1, P15.5, R5: any bytes under a right seal
	met := map[api.Errno]int{}
	key := []byte("k")
	r := rand.New(rand.NewSource(15))
	for n := range 30000 {
		g := &guess{Rand: r, rate: []int{0, 10, 40}[n%3], m: model{}, s: store.New()}
		h := g.header()
		h.Basis = row(r.Intn(3))
		if n%100 == 0 {
			h.Basis = row(255 + r.Intn(4))
		}
		b := body(h, []byte(noise(r.Intn(5), int64(n))))
		for range r.Intn(3) * (n % 2) {
			i := r.Intn(len(b))
			switch r.Intn(4) {
			case 0:
				b[i] = byte(r.Intn(256))
			case 1:
				b[i] ^= 1 << r.Intn(8)
			case 2:
				b = slices.Delete(b, i, i+1)
			case 3:
				b = slices.Insert(b, i, byte(r.Intn(3)*127))
			}
		}
		want, e := plainParse(b)
		met[e]++
		got, err := Parse(seal(b, key), key)
		answers(t, fmt.Sprintf("bytes % x", b), err, e)
		if !sameBundle(got, want) {
			t.Errorf("bytes % x: %.4x, want %.4x", b, got, want)
		}
		if e == api.OK && !bytes.Equal(body(got.Head, got.Pack), b) {
			t.Errorf("bytes % x: they are no others' of this bundle", b)
		}
	}
	for _, e := range []api.Errno{api.OK, api.ErrBundleForm, api.ErrBundleName, api.ErrBundleMany} {
		if met[e] < 50 {
			t.Errorf("%v is met %d times", e, met[e])
		}
	}
}

func TestVerifyOfAnyBytes(t *testing.T) { // P15.5: whatever is taken over a closed store leaves it closed
	r := rand.New(rand.NewSource(51))
	taken := 0
	for n := range 3000 {
		g := newGuess(rand.New(rand.NewSource(int64(n))), 0)
		var records []rec
		for _, id := range g.ids {
			if r.Intn(2) == 0 {
				records = append(records, whole(g.enc(id)))
			}
		}
		kept := g.m.reach(g.some(2)...)
		kept = slices.DeleteFunc(kept, func(id api.ID) bool { return !g.m.has(id) })
		p := packBy(records...)
		for range r.Intn(3) {
			p[r.Intn(len(p))] ^= 1 << r.Intn(8)
		}
		if r.Intn(2) == 0 { // a right digest over wrong bytes
			sum := idOf(p[:len(p)-32])
			copy(p[len(p)-32:], sum[:])
		}
		s := g.part(kept...)
		encs, err := Verify(s, api.Bundle{Pack: p})
		if err != nil {
			answers(t, "any bytes", err, api.Code(err), faultIDs(err)...)
			continue
		}
		taken++
		there := model{}
		for _, enc := range encs {
			s.Put(enc)
		}
		for id, enc := range s.All() {
			there[id], _ = object.Parse(enc)
		}
		if open := there.open(s.Ids()...); len(open) > 0 {
			t.Errorf("%d: the store is open: %.4x", n, open)
		}
	}
	if taken < 100 {
		t.Errorf("%d bundles are taken", taken)
	}
}

func faultIDs(err error) []api.ID {
	if f, ok := err.(*api.Fault); ok {
		return sorted(f.IDs...)
	}
	return nil
}
