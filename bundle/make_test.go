package bundle

import (
	"bytes"
	"fmt"
	"math"
	"slices"
	"strings"
	"testing"

	"satchel/api"
	"satchel/refs"
	"satchel/store"
	"satchel/walk"
)

func TestExamples(t *testing.T) { // P15.1 to P15.4
	w := newWorld()
	key := []byte("k")
	b, err := Make(w.s, w.head(), key, []api.ID{w.d}, []api.ID{w.c})
	answers(t, "1", err, api.OK)
	x, err := Parse(b, key)
	answers(t, "1: Parse", err, api.OK)
	if !slices.Equal(x.Head.Basis, []api.ID{w.c}) || !slices.Equal(x.Head.Stamps, w.head().Stamps) || !slices.Equal(idsOf(t, x.Pack), []api.ID{w.d}) {
		t.Errorf("1: %+v", x)
	}
	parses(t, "1: without the last byte", b[:len(b)-1], api.ErrBundleSeal)
	_, err = Parse(b, []byte("q"))
	answers(t, "1: another key", err, api.ErrBundleSeal)

	verifies(t, "2", w.part(w.x, w.t, w.c), x, w.encs(w.d))
	refuses(t, "2", store.New(), x, api.ErrBundleBasis, w.c)

	x = makes(t, "3", w.s, w.head(), []api.ID{w.d}, nil)
	verifies(t, "3", store.New(), x, w.encs(w.x, w.t, w.c, w.d))

	alone := packOf(w.encs(w.d)...)
	refuses(t, "4", store.New(), api.Bundle{Pack: alone}, api.ErrBundleClosure, sorted(w.t, w.c)...)
	stamps := []api.Stamp{{Name: "heads/main", ID: all(7), Seq: 1}}
	refuses(t, "4", w.part(w.x, w.t, w.c), api.Bundle{Head: api.Header{Stamps: stamps}, Pack: alone}, api.ErrBundleRef, all(7))

	h := w.head()
	h.Stamps[0].ID = put(w.s, blob("other"))
	unmade(t, "5", w.s, h, []api.ID{w.d}, nil, api.ErrBundleRef, h.Stamps[0].ID)
	unmade(t, "5", w.s, w.head(), []api.ID{all(9)}, nil, api.ErrBundleWant, all(9))

	for _, turn := range []func(h *api.Header){
		func(h *api.Header) { h.From = "Home" }, func(h *api.Header) { h.To = "" }, func(h *api.Header) { h.Stamps[0].Name = "a//b" },
	} {
		h := w.head()
		turn(&h)
		unmade(t, fmt.Sprintf("6: %q, %q, %d", h.From, h.To, h.Seq), w.s, h, []api.ID{w.d}, nil, api.ErrBundleName)
	}
	for _, turn := range []func(h *api.Header){func(h *api.Header) { h.Seq = 0 }, func(h *api.Header) { h.Stamps[0].Seq = 3 }} {
		h := w.head()
		turn(&h)
		unmade(t, fmt.Sprintf("6: %q, %q, %d", h.From, h.To, h.Seq), w.s, h, []api.ID{w.d}, nil, api.ErrBundleForm)
	}
}

// heads looks whether a header is made and parsed, or refused by both with the same error.
func heads(t *testing.T, what string, h api.Header, n api.Errno) {
	t.Helper()
	what = fmt.Sprintf("%s: %.80q, %.80q, %d, %d stamps", what, h.From, h.To, h.Seq, len(h.Stamps))
	parses(t, what, lay(h, nil, []byte("k")), n)
	if n == api.OK {
		makes(t, what, store.New(), h, nil, nil)
		return
	}
	unmade(t, what, store.New(), h, nil, nil, n)
}

func TestSitesNames(t *testing.T) { // P15.1, P15.3, 'Words of this chapter'
	name := func(name string, n api.Errno) {
		t.Helper()
		heads(t, "From", api.Header{From: name, To: "b", Seq: 1}, n)
		heads(t, "To", api.Header{From: "a", To: name, Seq: 1}, n)
	}
	name("", api.ErrBundleName)
	name("-", api.OK)
	name("..", api.OK)
	name(strings.Repeat("z", 64), api.OK)
	name(strings.Repeat("z", 65), api.ErrBundleName)
	name(strings.Repeat("9.", 5000), api.ErrBundleName)
	name("é", api.ErrBundleName)
	for c := range 256 {
		n := api.ErrBundleName
		if strings.IndexByte("abcdefghijklmnopqrstuvwxyz0123456789-_.", byte(c)) >= 0 {
			n = api.OK
		}
		for _, text := range []string{string([]byte{byte(c)}), string([]byte{'a', byte(c), 'a'}), strings.Repeat("a", 63) + string([]byte{byte(c)})} {
			name(text, n)
		}
	}
}

func stamped(names ...string) api.Header {
	h := plain
	for _, name := range names {
		h.Stamps = append(h.Stamps, api.Stamp{Name: name, Seq: 1})
	}
	return h
}

func TestStampsNames(t *testing.T) { // P15.1, P15.3: those that refs.Check takes
	for _, name := range []string{"a", "heads/main", "HEAD", "", "a//b", "/", "a/", "-a", "a.", "a..b", "é", "\xff", "a b", "Z", "heads/HEAD", strings.Repeat("a", 255), strings.Repeat("a", 256), strings.Repeat("a", 70000)} {
		n := api.OK
		if refs.Check(name) != api.OK {
			n = api.ErrBundleName
		}
		heads(t, "one", stamped(name), n)
	}
	heads(t, "more of them", stamped("a", "b", "c/d", "é", "é."), api.ErrBundleName)
	heads(t, "the last one", stamped("a", "b", "c//"), api.ErrBundleName)
	heads(t, "the first one", stamped("a//", "b", "c"), api.ErrBundleName)
}

func TestNumbers(t *testing.T) { // P15.1, P15.3: Seq is 1 to MaxSeq, each stamp's Seq 1 to the header's
	for seq, n := range map[uint64]api.Errno{0: api.ErrBundleForm, 1: api.OK, 2: api.OK, api.MaxSeq: api.OK, api.MaxSeq + 1: api.ErrBundleForm, 1 << 63: api.ErrBundleForm, math.MaxUint64: api.ErrBundleForm} {
		h := plain
		h.Seq = seq
		heads(t, "Seq", h, n)
		h = stamped("a")
		h.Seq = seq
		heads(t, "Seq with a stamp", h, n)
	}
	for _, seq := range []uint64{1, 2, 9, api.MaxSeq} {
		for stampSeq, n := range map[uint64]api.Errno{0: api.ErrBundleForm, 1: api.OK, seq: api.OK, seq + 1: api.ErrBundleForm, math.MaxUint64: api.ErrBundleForm} {
			h := stamped("a", "b", "c")
			h.Seq = seq
			for i := range h.Stamps {
				at := slices.Clone(h.Stamps)
				at[i].Seq = stampSeq
				heads(t, fmt.Sprint("stamp ", i), api.Header{From: "a", To: "b", Seq: seq, Stamps: at}, n)
			}
		}
	}
}

func TestStampsRise(t *testing.T) { // P15.1, P15.3
	heads(t, "they rise", stamped("B", "a", "a-", "a.b", "a/b", "aa", "b", "é"), api.OK)
	for _, names := range [][]string{{"a", "a"}, {"b", "a"}, {"a", "b", "b"}, {"a", "c", "b"}, {"a/b", "a.b"}, {"aa", "a"}, {"a", "B"}} {
		heads(t, "they don't rise", stamped(names...), api.ErrBundleForm)
	}
}

// rows tells names of stamps.
func rows(n int) []string {
	var names []string
	for i := range n {
		names = append(names, fmt.Sprintf("heads/%06d", i))
	}
	return names
}

// blobs puts blobs into a store.
func blobs(s *store.Store, n int) []api.ID {
	var ids []api.ID
	for i := range n {
		ids = append(ids, put(s, blob(fmt.Sprint("blob ", i))))
	}
	return ids
}

func TestMakeMany(t *testing.T) { // P15.3, P15.1
	heads(t, "MaxStamps", stamped(rows(api.MaxStamps)...), api.OK)
	heads(t, "one more", stamped(rows(api.MaxStamps+1)...), api.ErrBundleMany)
	heads(t, "many more", stamped(rows(20000)...), api.ErrBundleMany)

	s := store.New()
	ids := blobs(s, api.MaxBasis+1)
	makes(t, "MaxBasis", s, plain, nil, ids[1:])
	makes(t, "MaxBasis, some of them twice", s, plain, nil, slices.Concat(ids[1:], ids[1:], ids[5:6]))
	unmade(t, "one more", s, plain, nil, ids, api.ErrBundleMany)
	unmade(t, "one more, some of them twice", s, plain, nil, slices.Concat(ids, ids), api.ErrBundleMany)
	unmade(t, "one more, that is not there", s, plain, nil, append(slices.Clone(ids[1:]), all(1)), api.ErrBundleMany)
	x := makes(t, "one more that is wanted", s, plain, ids, ids[1:])
	if got := idsOf(t, x.Pack); !slices.Equal(got, ids[:1]) {
		t.Errorf("the pack holds %.4x", got)
	}
}

func TestMakeWant(t *testing.T) { // P15.3: ErrBundleWant
	w := newWorld()
	oddTree := put(w.s, folder(w.x))                 // a blob as a tree
	oddCommit := put(w.s, commit(w.x, "odd"))        // a blob as a tree
	oddTag := put(w.s, tag(w.t, api.KindCommit))     // a tree as a commit
	openTree := put(w.s, tree(all(5), all(3), w.x))  // names what isn't there
	openCommit := put(w.s, commit(openTree, "open")) // likewise, two steps on
	both := put(w.s, commit(w.x, "both", all(3), openCommit))
	lists := func(ids ...api.ID) []api.ID { return ids }
	for _, c := range []struct {
		want, have, missing []api.ID
	}{
		{lists(all(9)), nil, lists(all(9))},
		{nil, lists(all(9)), lists(all(9))},
		{lists(all(9), w.d, all(1)), lists(w.c, all(9), all(4), all(9)), lists(all(1), all(4), all(9))},
		{lists(api.ID{}), nil, lists(api.ID{})},
		{lists(w.d), lists(api.ID{}), lists(api.ID{})},
		{lists(openTree), nil, lists(all(3), all(5))},
		{lists(openCommit, w.d), nil, lists(all(3), all(5))},
		{lists(w.d), lists(w.c, openCommit), lists(all(3), all(5))},
		{lists(openCommit, all(1)), lists(openTree, all(7), all(3)), lists(all(1), all(3), all(5), all(7))},
		{lists(openCommit), lists(openCommit), lists(all(3), all(5))},
		{lists(oddTree), nil, nil},
		{lists(oddCommit), nil, nil},
		{lists(w.d, oddTag), nil, nil},
		{nil, lists(oddTag), nil},
		{lists(w.d), lists(w.c, oddCommit), nil},
		{lists(oddCommit), lists(oddCommit), nil},
		{lists(both), nil, lists(all(3), all(5))},
		{lists(oddTree), lists(all(8)), lists(all(8))},
	} {
		h := w.head()
		h.Stamps[0].ID = all(99) // that it can't be reached is told later
		unmade(t, fmt.Sprintf("want %.4x, have %.4x", c.want, c.have), w.s, h, c.want, c.have, api.ErrBundleWant, c.missing...)
	}
}

func TestMakeRef(t *testing.T) { // P15.3: ErrBundleRef
	w := newWorld()
	other := put(w.s, blob("other"))
	stamps := func(ids ...api.ID) api.Header {
		h := plain
		for i, id := range ids {
			h.Stamps = append(h.Stamps, api.Stamp{Name: fmt.Sprint("heads/", i), ID: id, Seq: 1})
		}
		return h
	}
	makes(t, "all that is reached", w.s, stamps(w.x, w.t, w.c, w.d, w.x), []api.ID{w.d}, nil)
	makes(t, "reached from have", w.s, stamps(w.x, w.t, w.c, w.d), nil, []api.ID{w.d})
	makes(t, "reached from one of both", w.s, stamps(w.c, other), []api.ID{w.d}, []api.ID{other})
	makes(t, "gone", w.s, stamps(api.ID{}, api.ID{}), nil, nil)
	for _, c := range []struct {
		h          api.Header
		want, have []api.ID
		lost       []api.ID
	}{
		{stamps(w.d), []api.ID{w.c}, nil, []api.ID{w.d}},
		{stamps(w.d, api.ID{}, all(9), w.x, all(9), all(1), other), []api.ID{w.c}, []api.ID{w.t}, sorted(w.d, all(1), all(9), other)},
		{stamps(w.x), nil, nil, []api.ID{w.x}},
		{stamps(all(255)), []api.ID{w.d}, []api.ID{w.d, other}, []api.ID{all(255)}},
	} {
		unmade(t, fmt.Sprintf("want %.4x, have %.4x", c.want, c.have), w.s, c.h, c.want, c.have, api.ErrBundleRef, c.lost...)
	}
}

func TestMakePackErrors(t *testing.T) { // P15.3: the errors of pack.Encode
	s := store.New()
	root := put(s, tree(blobs(s, api.MaxObjects)...))
	unmade(t, "1025 objects", s, plain, []api.ID{root}, nil, api.ErrPackMany)
	makes(t, "1024 objects", s, plain, []api.ID{root}, []api.ID{put(s, blob("blob 7"))})
	makes(t, "all are there", s, plain, []api.ID{root}, []api.ID{root})

	s = store.New()
	var great []api.ID
	left := api.MaxPack - 64
	for i := range 16 {
		n := min(left-96, api.MaxObject)
		left -= n + 96
		great = append(great, put(s, blob(noise(n-1, int64(i)))))
	}
	if left != 0 {
		t.Fatalf("%d bytes are left", left)
	}
	x := makes(t, "as much as may be", s, plain, great, nil)
	verifies(t, "as much as may be", store.New(), x, (&world{s: s}).encs(great...))
	unmade(t, "one object more", s, plain, append(great, put(s, blob(""))), nil, api.ErrPackLong)
	makes(t, "what is had doesn't count", s, plain, great, []api.ID{put(s, blob(""))})
}

func TestMakeOrder(t *testing.T) { // P15.3, R4: of several errors the one that is named first
	s := store.New()
	ids := blobs(s, api.MaxObjects+1)
	call := struct {
		h          api.Header
		want, have []api.ID
	}{}
	faults := []struct {
		n    api.Errno
		lay  func()
		lost []api.ID
	}{
		{api.ErrBundleName, func() { call.h.From = "Home" }, nil},
		{api.ErrBundleName, func() { call.h.To = "" }, nil},
		{api.ErrBundleName, func() { call.h.Stamps[0].Name = "/" }, nil},
		{api.ErrBundleForm, func() { call.h.Seq = api.MaxSeq + 1 }, nil},
		{api.ErrBundleForm, func() { call.h.Stamps[1].Seq = 0 }, nil},
		{api.ErrBundleForm, func() { call.h.Stamps[1].Name = "A" }, nil},
		{api.ErrBundleMany, func() { call.h.Stamps = append(call.h.Stamps, stamped(rows(511)...).Stamps...) }, nil},
		{api.ErrBundleMany, func() { call.have = slices.Clone(ids[:257]) }, nil},
		{api.ErrBundleWant, func() { call.want = append(call.want, all(9)) }, []api.ID{all(9)}},
		{api.ErrBundleRef, func() { call.h.Stamps[1].ID = all(8) }, []api.ID{all(8)}},
		{api.ErrPackMany, func() { call.want = append(call.want, ids...) }, nil},
	}
	for i, first := range faults {
		for j, second := range faults[i:] {
			call.h = stamped("A", "B")
			call.want, call.have = nil, nil
			second.lay()
			if j > 0 {
				first.lay()
			}
			unmade(t, fmt.Sprintf("fault %d with fault %d", i, i+j), s, call.h, call.want, call.have, first.n, first.lost...)
		}
	}
}

func TestWhatMakeTells(t *testing.T) { // P15.3
	w := newWorld()
	mark := put(w.s, tag(w.d, api.KindCommit))
	other := put(w.s, blob("other"))
	lists := func(ids ...api.ID) []api.ID { return ids }
	for _, c := range []struct{ want, have, need []api.ID }{
		{nil, nil, nil},
		{nil, lists(w.d, w.d), nil},
		{lists(w.d), lists(w.d), nil},
		{lists(w.x), lists(w.d), nil},
		{lists(w.d, mark, w.d), lists(w.c, w.x, w.c), sorted(w.d, mark)},
		{lists(mark), nil, sorted(w.x, w.t, w.c, w.d, mark)},
		{lists(mark), lists(w.x), sorted(w.t, w.c, w.d, mark)},
		{lists(other, w.c), lists(w.t, other), lists(w.c)},
		{lists(other, w.d, w.c), lists(w.c, other), lists(w.d)},
	} {
		what := fmt.Sprintf("want %.4x, have %.4x", c.want, c.have)
		h := plain
		h.Basis = lists(all(9), w.x, all(1), all(9)) // it is not looked at
		x := makes(t, what, w.s, h, c.want, c.have)
		if got := idsOf(t, x.Pack); !slices.Equal(got, c.need) {
			t.Errorf("%s: the pack holds %.4x, want %.4x", what, got, c.need)
		}
		one, _ := Make(w.s, h, []byte("k"), c.want, c.have)
		slices.Reverse(c.want)
		slices.Reverse(c.have)
		two, _ := Make(w.s, plain, []byte("k"), c.want, c.have)
		if !bytes.Equal(one, lay(x.Head, x.Pack, []byte("k"))) || !bytes.Equal(two, one) {
			t.Errorf("%s: another answer to the same", what)
		}
	}
}

func TestMakeLeans(t *testing.T) { // P15.3: on what can be reached from have, and on nothing else
	s := store.New()
	text := noise(20000, 1)
	old := put(s, blob(text+"old"))
	put(s, blob(text+"nobody has it"))
	base := put(s, commit(put(s, folder(put(s, tree(old)))), "base"))
	next := put(s, blob(text+"new"))
	want := put(s, commit(put(s, folder(put(s, tree(next)))), "next", base))
	h := stamped("heads/main")
	h.Stamps[0].ID = want
	x := makes(t, "a change", s, h, []api.ID{want}, []api.ID{base})
	if needs := needsOf(t, x.Pack); !slices.Contains(needs, old) || len(x.Pack) > 1000 {
		t.Errorf("a pack of %d bytes that leans on %.4x", len(x.Pack), needs)
	}
	reached, _ := walk.Reach(s, []api.ID{base})
	have := (&world{s: s}).part(reached...)
	need, _ := walk.Need(s, []api.ID{want}, []api.ID{base})
	verifies(t, "a change", have, x, (&world{s: s}).encs(need...))
	have.Remove(old)
	// What is had is not closed: the pack lacks a base.
	refuses(t, "a base is not there", have, x, api.ErrPackBase, old)

	x = makes(t, "all", s, h, []api.ID{want}, nil)
	if needs := needsOf(t, x.Pack); len(needs) > 0 || len(x.Pack) > 22000 {
		t.Errorf("a pack of %d bytes that leans on %.4x", len(x.Pack), needs)
	}
}

func TestMakeOfGreatStores(t *testing.T) { // P15.3, R6: of what is had no more is read than may help
	s := store.New()
	var files []api.ID
	for i := range 200 {
		files = append(files, put(s, blob(noise(api.MaxObject-1, int64(i)))))
	}
	near := put(s, blob(noise(1000, 99)+"old"))
	far := put(s, commit(put(s, tree(files...)), "far"))
	have := put(s, commit(put(s, tree(near)), "near", far))
	next := put(s, blob(noise(1000, 99)+"new"))
	want := put(s, tree(next, files[7]))
	x := makes(t, "a great store", s, plain, []api.ID{want}, []api.ID{have, have})
	if needs := needsOf(t, x.Pack); !slices.Equal(needs, []api.ID{near}) || len(x.Pack) > 700 {
		t.Errorf("a pack of %d bytes that leans on %.4x", len(x.Pack), needs)
	}
	size := 0
	for _, enc := range nearest(s, []api.ID{have}) {
		size += len(enc)
	}
	if size > mostLean || size < mostLean-api.MaxObject {
		t.Errorf("%d bytes of bases", size)
	}
}
