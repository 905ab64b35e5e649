package bundle

import (
	"crypto/sha256"
	"fmt"
	"slices"
	"testing"

	"satchel/api"
	"satchel/object"
	"satchel/store"
)

func encoded(o api.Object) []byte {
	enc, e := object.Encode(o)
	if e != api.OK {
		panic(fmt.Sprintf("%+v: %v", o, e))
	}
	return enc
}

func idOf(enc []byte) api.ID { return sha256.Sum256(enc) }

func basis(ids ...api.ID) api.Header { return api.Header{Basis: ids} }

// points is a header whose stamps have these ids; their names and numbers are none.
func points(ids ...api.ID) api.Header {
	var h api.Header
	for _, id := range ids {
		h.Stamps = append(h.Stamps, api.Stamp{ID: id})
	}
	return h
}

func TestVerify(t *testing.T) { // P15.2
	w := newWorld()
	everything := w.encs(w.x, w.t, w.c, w.d)
	for i, c := range []struct {
		s    *store.Store
		h    api.Header
		encs [][]byte
	}{
		{store.New(), basis(), nil},
		{w.s, basis(), nil},
		{w.s, basis(w.c, w.d, w.c, w.x, w.c), nil},
		{store.New(), basis(), everything},
		{w.s, basis(), everything}, // objects that are there already
		{w.part(w.c, w.x), basis(w.x), everything},
		{w.part(w.t, w.c), basis(), w.encs(w.d)},
		{w.part(w.t, w.c), basis(w.c), w.encs(w.d, w.x)},
		{store.New(), points(), everything},
		{store.New(), points(w.x, w.d, api.ID{}, w.x, w.c), everything},
		{w.part(w.x, w.t), points(w.t, w.x, api.ID{}), nil},                  // in the store alone
		{store.New(), points(w.t, w.x), w.encs(w.t, w.x)},                    // in the pack alone
		{w.part(w.x), points(w.t, w.x, api.ID{}, api.ID{}), w.encs(w.t)},     // in one of both
		{store.New(), points(api.ID{}), nil},                                 // gone
		{w.part(w.c, w.t), points(w.c, w.d, w.c), w.encs(w.d)},               // the store isn't closed: x isn't looked for
		{w.part(w.c, w.t), api.Header{From: "?", Seq: 9}, w.encs(w.d)},       // of the header it looks at the ids alone
		{w.part(w.d), basis(w.d), everything},                                // the store lacks what the pack brings
		{w.part(w.d), api.Header{Basis: []api.ID{w.d, w.d}}, w.encs(w.x)},    // twice
		{w.part(w.d, w.c), basis(sorted(w.d, w.c)[1], w.c, w.d), everything}, // in no order
	} {
		verifies(t, fmt.Sprint("bundle ", i), c.s, api.Bundle{Head: c.h, Pack: packOf(c.encs...)}, c.encs)
	}
}

func TestVerifyKinds(t *testing.T) { // P15.2: objects of every kind, wherever their children are
	s := store.New()
	sub := put(s, tree(put(s, blob("a")), put(s, blob("b"))))
	top := put(s, folder(sub))
	first := put(s, commit(top, "1"))
	second := put(s, commit(sub, "2", first))
	marks := []api.ID{put(s, tag(second, api.KindCommit)), put(s, tag(top, api.KindTree)), put(s, tag(put(s, blob("a")), api.KindBlob))}
	put(s, tag(marks[0], api.KindTag))
	w := &world{s: s}
	ids := s.Ids()
	for bits := range 1 << len(ids) { // each is brought or kept
		var brought, kept []api.ID
		for i, id := range ids {
			if bits>>i&1 == 1 {
				brought = append(brought, id)
			} else {
				kept = append(kept, id)
			}
		}
		h := points(ids...)
		h.Basis = kept
		verifies(t, fmt.Sprint("parts ", bits), w.part(kept...), api.Bundle{Head: h, Pack: packOf(w.encs(brought...)...)}, w.encs(brought...))
	}
}

func TestVerifyBasis(t *testing.T) { // P15.2: ErrBundleBasis and its ids
	w := newWorld()
	bad := []byte("no pack")
	refuses(t, "all", store.New(), api.Bundle{Head: basis(w.d, w.c, w.x, w.d), Pack: bad}, api.ErrBundleBasis, sorted(w.c, w.d, w.x)...)
	refuses(t, "some", w.part(w.c), api.Bundle{Head: basis(w.d, w.c, w.x, w.d), Pack: bad}, api.ErrBundleBasis, sorted(w.d, w.x)...)
	refuses(t, "the zero id", w.s, api.Bundle{Head: basis(api.ID{}, w.c)}, api.ErrBundleBasis, api.ID{})
	// What the pack brings doesn't count.
	refuses(t, "in the pack", w.part(w.x, w.t), api.Bundle{Head: basis(w.c), Pack: packOf(w.encs(w.c)...)}, api.ErrBundleBasis, w.c)
}

func TestVerifyPackErrors(t *testing.T) { // P15.2: the errors of pack.Decode, with no ids but those of ErrPackBase
	w := newWorld()
	good := packOf(w.encs(w.x, w.t, w.c, w.d)...)
	base, near := encoded(blob(noise(300, 1)+"a")), encoded(blob(noise(300, 1)+"b"))
	with := func(change func(r *rec)) []byte {
		r := whole([]byte("\x01text"))
		change(&r)
		return packBy(r)
	}
	var many []rec
	for i := range api.MaxObjects + 1 {
		many = append(many, whole([]byte(fmt.Sprint("\x01", i))))
	}
	s := w.part(w.x)
	s.Put(base)
	for _, c := range []struct {
		what string
		p    []byte
		n    api.Errno
	}{
		{"too long", make([]byte, api.MaxPack+1), api.ErrPackLong},
		{"none", nil, api.ErrPackSum},
		{"cut", good[:len(good)-1], api.ErrPackSum},
		{"a byte behind", append(slices.Clone(good), 0), api.ErrPackSum},
		{"no form", with(func(r *rec) { r.size = api.MaxObject + 1 }), api.ErrPackForm},
		{"many", packBy(many...), api.ErrPackMany},
		{"a base of itself", with(func(r *rec) { r.base = r.id }), api.ErrPackChain},
		{"another size", with(func(r *rec) { r.size++ }), api.ErrPackData},
		{"another id", with(func(r *rec) { r.id = all(9) }), api.ErrPackData},
		{"no delta", with(func(r *rec) { r.base = idOf(base) }), api.ErrPackData},
		{"no object", packBy(whole([]byte{7, 1})), api.ErrPackObject},
	} {
		refuses(t, c.what, s, api.Bundle{Head: points(all(1)), Pack: c.p}, c.n)
	}
	verifies(t, "a base that is there", s, api.Bundle{Pack: packBy(thin(base, near))}, [][]byte{near})
	verifies(t, "a base in the pack", w.s, api.Bundle{Pack: packBy(thin(base, near), whole(base))}, (&world{s: s}).encsOf(base, near))
}

// encsOf tells encodings sorted by id.
func (w *world) encsOf(encs ...[]byte) [][]byte {
	slices.SortFunc(encs, func(a, b []byte) int {
		x, y := idOf(a), idOf(b)
		return slices.Compare(x[:], y[:])
	})
	return encs
}

func TestVerifyBases(t *testing.T) { // P15.2: with ErrPackBase the needs that are not in the store
	text := noise(300, 1)
	var bases, texts [][]byte
	var records []rec
	var needs []api.ID
	for i := range 5 {
		bases = append(bases, encoded(blob(fmt.Sprint(text, "base", i))))
		texts = append(texts, encoded(blob(fmt.Sprint(text, "text", i))))
		needs = append(needs, idOf(bases[i]))
		records = append(records, thin(bases[i], texts[i]))
	}
	records = append(records, thin(bases[0], encoded(blob(text+"once more"))), thin(texts[0], encoded(blob(text+"chain"))))
	p := packBy(records...)
	if got := needsOf(t, p); !slices.Equal(got, sorted(needs...)) {
		t.Fatalf("the needs are %.4x", got)
	}
	h := points(all(9)) // told later
	refuses(t, "no base", newWorld().s, api.Bundle{Head: h, Pack: p}, api.ErrPackBase, sorted(needs...)...)
	s := store.New()
	s.Put(bases[3])
	s.Put(bases[0])
	refuses(t, "two bases", s, api.Bundle{Head: h, Pack: p}, api.ErrPackBase, sorted(needs[1], needs[2], needs[4])...)
	s.Put(texts[1]) // what the pack has itself doesn't help
	s.Put(bases[1])
	s.Put(bases[2])
	refuses(t, "four bases", s, api.Bundle{Head: h, Pack: p}, api.ErrPackBase, needs[4])
	s.Put(bases[4])
	refuses(t, "all bases", s, api.Bundle{Head: h, Pack: p}, api.ErrBundleRef, all(9))
	wrong := records[1]
	wrong.size++
	p = packBy(wrong, records[2])
	refuses(t, "wrong data, too", store.New(), api.Bundle{Pack: p}, api.ErrPackBase, sorted(needs[1], needs[2])...)
	refuses(t, "wrong data", s, api.Bundle{Pack: p}, api.ErrPackData)
}

func TestVerifyClosure(t *testing.T) { // P15.2: ErrBundleClosure and the children's ids
	w := newWorld()
	mark := put(w.s, tag(w.c, api.KindCommit))
	oddTree := put(w.s, folder(w.x))             // a blob as a tree
	oddFile := put(w.s, tree(w.t))               // a tree as a blob
	oddCommit := put(w.s, commit(w.x, "odd"))    // a blob as a tree
	oddParent := put(w.s, commit(w.t, "p", w.x)) // a blob as a commit
	oddTag := put(w.s, tag(w.t, api.KindBlob))   // a tree as a blob
	lost := put(w.s, commit(all(7), "lost", all(9), w.c, all(1)))
	ids := func(ids ...api.ID) []api.ID { return ids }
	for i, c := range []struct{ brought, kept, open []api.ID }{
		{ids(w.d), nil, sorted(w.t, w.c)},
		{ids(w.d), ids(w.t), ids(w.c)},
		{ids(w.d), ids(w.c), ids(w.t)},
		{ids(w.d, w.c), nil, ids(w.t)}, // twice a child
		{ids(w.d, w.c, w.t), nil, ids(w.x)},
		{ids(w.d, w.c), ids(w.x), ids(w.t)},
		{ids(mark), ids(w.t), ids(w.c)},
		{ids(oddTree), ids(w.x), ids(w.x)},
		{ids(oddTree, w.x), nil, ids(w.x)},
		{ids(oddTree, w.x), ids(w.x), ids(w.x)},
		{ids(oddTree), nil, ids(w.x)},
		{ids(oddFile), ids(w.t), ids(w.t)},
		{ids(oddFile, w.t, w.x), nil, ids(w.t)},
		{ids(oddCommit), ids(w.x), ids(w.x)},
		{ids(oddCommit, w.x), nil, ids(w.x)},
		{ids(oddParent), ids(w.x, w.t), ids(w.x)},
		{ids(oddTag), ids(w.t), ids(w.t)},
		{ids(oddTag, w.t), ids(w.x), ids(w.t)},
		{ids(oddTree, oddFile, oddCommit, oddTag, w.d, w.x), ids(w.t), sorted(w.x, w.t, w.c)},
		{ids(oddFile, w.d), ids(w.t, w.c), ids(w.t)}, // well as the one, not as the other
		{ids(lost), ids(w.c), ids(all(1), all(7), all(9))},
		{ids(lost, oddTree), ids(w.c, w.x), sorted(all(1), all(7), all(9), w.x)},
	} {
		b := api.Bundle{Head: points(all(99)), Pack: packOf(w.encs(c.brought...)...)}
		refuses(t, fmt.Sprint("bundle ", i), w.part(c.kept...), b, api.ErrBundleClosure, c.open...)
	}
	// The store's own objects are not looked at.
	verifies(t, "the store is not closed", w.part(oddTree, oddCommit, lost), api.Bundle{Head: basis(lost), Pack: packOf(w.encs(w.x)...)}, w.encs(w.x))
}

func TestVerifyRef(t *testing.T) { // P15.2: ErrBundleRef and its ids
	w := newWorld()
	p := packOf(w.encs(w.d)...)
	kept := w.part(w.t, w.c)
	refuses(t, "one", kept, api.Bundle{Head: points(w.x), Pack: p}, api.ErrBundleRef, w.x)
	refuses(t, "several", kept, api.Bundle{Head: points(all(9), w.x, api.ID{}, w.d, all(1), w.x, w.c, all(9)), Pack: p}, api.ErrBundleRef, sorted(all(9), w.x, all(1))...)
	refuses(t, "an empty pack", store.New(), api.Bundle{Head: points(w.d), Pack: packOf()}, api.ErrBundleRef, w.d)
	last := all(0)
	last[31] = 1
	refuses(t, "nearly zero", w.s, api.Bundle{Head: points(last), Pack: packOf()}, api.ErrBundleRef, last)
}

func TestVerifyOrder(t *testing.T) { // P15.2, R4: of several errors the one that is named first
	w := newWorld()
	base, near := encoded(blob(noise(300, 1)+"a")), encoded(blob(noise(300, 1)+"b"))
	var h api.Header
	var records []rec
	cut := 0
	faults := []struct {
		n   api.Errno
		lay func()
		ids []api.ID
	}{
		{api.ErrBundleBasis, func() { h.Basis = []api.ID{w.x, w.c} }, []api.ID{w.c}},
		{api.ErrPackSum, func() { cut = 1 }, nil},
		{api.ErrPackBase, func() { records = append(records, thin(base, near)) }, []api.ID{idOf(base)}},
		{api.ErrPackChain, func() { r := whole([]byte("\x01r")); r.base = r.id; records = append(records, r) }, nil},
		{api.ErrPackObject, func() { records = append(records, whole([]byte{7})) }, nil},
		{api.ErrBundleClosure, func() { records = append(records, whole(w.encs(w.d)[0])) }, sorted(w.t, w.c)},
		{api.ErrBundleRef, func() { h.Stamps = []api.Stamp{{ID: all(5)}} }, []api.ID{all(5)}},
	}
	for i, first := range faults {
		for j, second := range faults[i:] {
			h, records, cut = points(w.x), nil, 0
			second.lay()
			if j > 0 {
				first.lay()
			}
			p := packBy(records...)
			refuses(t, fmt.Sprintf("fault %d with fault %d", i, i+j), w.part(w.x), api.Bundle{Head: h, Pack: p[:len(p)-cut]}, first.n, first.ids...)
		}
	}
}

func TestVerifyOverFullStores(t *testing.T) { // P15.2: the store needs no room
	s := store.New()
	ids := blobs(s, api.MaxStore)
	b := api.Bundle{Head: basis(ids[5]), Pack: packOf(encoded(tree(ids[:1000]...)), encoded(blob("one more")))}
	verifies(t, "a full store", s, b, newWorld().encsOf(encoded(tree(ids[:1000]...)), encoded(blob("one more"))))
}

func TestVerifyEnds(t *testing.T) { // P15.5, R1: a great object that is named very often
	s := store.New()
	files := slices.Repeat([]api.ID{put(s, blob("x"))}, api.MaxEntries)
	great := put(s, tree(files...))
	o := api.Object{Kind: api.KindTree}
	for i := range 1000 {
		o.Entries = append(o.Entries, api.Entry{Mode: api.ModeTree, Name: fmt.Sprintf("%04d", i), ID: great})
	}
	var encs [][]byte
	for i := range 100 {
		o.Entries[999].Name = fmt.Sprint(9000 + i)
		encs = append(encs, encoded(o))
	}
	b := api.Bundle{Pack: packOf(encs...)}
	want := newWorld().encsOf(encs...)
	// It is read once, not a hundred thousand times: memory tells more surely than time.
	if n := taken(func() { verifies(t, "a great tree", s, b, want) }); n > 1<<29 {
		t.Errorf("%d bytes are taken", n)
	}
}
