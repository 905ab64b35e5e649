package ledger

import (
	"fmt"
	"reflect"
	"slices"
	"strings"
	"testing"
	"unsafe"

	"satchel/api"
	"satchel/object"
	"satchel/store"
)

// head tells the next bundle's header by stamps.
func head(l api.Ledger, stamps []api.Stamp) api.Header {
	return api.Header{From: l.From, To: l.To, Seq: l.Next, Stamps: stamps}
}

func TestSent(t *testing.T) { // P16.5
	w := newWorld()
	l := small()
	l.Lean = sorted(w.c, all(4))
	h := head(l, stamp("y", w.d, 300, "x", w.x, 1, "z", none, 7, "x", none, 0, "w", w.d, 2, "y", all(9), 0))
	h.Basis = []api.ID{none, none, all(9), all(8)} // it is not looked at
	want := deep(l)
	want.Next = 301
	want.Sent = append(want.Sent, api.Sent{Seq: 300, Tips: sorted(w.d, w.x)})
	want.Lean = sorted(w.d, all(4)) // x and c are behind d
	want.Refs = stamp("w", w.d, 2, "x", w.x, 1, "y", w.d, 300, "z", none, 7)
	x, err := Sent(l, w.s, h)
	tells(t, "Sent", x, err, want, api.OK)
	h.Basis = nil
	x, err = Sent(l, w.s, h)
	tells(t, "without Basis", x, err, want, api.OK)

	want = deep(l)
	want.Next, want.Refs = 301, nil
	want.Sent = append(want.Sent, api.Sent{Seq: 300})
	x, err = Sent(l, w.s, head(l, nil))
	tells(t, "no stamps", x, err, want, api.OK)
	want.Refs = stamp("x", none, 3, "y", none, 300)
	x, err = Sent(l, w.s, head(l, want.Refs))
	tells(t, "all gone", x, err, want, api.OK)
}

func TestErrorsOfSent(t *testing.T) { // P16.5: ErrLedgerDest, ErrLedgerSeq, ErrLedgerForm, in this order
	w := newWorld()
	l := api.Ledger{From: "a", To: "b", Next: 4, Refs: stamp("x", all(1), 3)}
	last := api.Ledger{From: "a", To: "b", Next: api.MaxSeq + 1}
	odd := stamp("", all(1), 1)
	for _, c := range []struct {
		what string
		l    api.Ledger
		h    api.Header
		n    api.Errno
	}{
		{"another source", l, api.Header{From: "c", To: "b", Seq: 4}, api.ErrLedgerDest},
		{"another destination", l, api.Header{From: "a", To: "c", Seq: 4}, api.ErrLedgerDest},
		{"the other way round", l, api.Header{From: "b", To: "a", Seq: 4}, api.ErrLedgerDest},
		{"no names", l, api.Header{Seq: 4}, api.ErrLedgerDest},
		{"another source and number", l, api.Header{From: "c", To: "b", Seq: 5}, api.ErrLedgerDest},
		{"another source, and odd stamps", l, api.Header{From: "c", To: "b", Seq: 4, Stamps: odd}, api.ErrLedgerDest},
		{"another source, and no number left", last, api.Header{From: "c", To: "b", Seq: api.MaxSeq + 1}, api.ErrLedgerDest},
		{"the number 0", l, api.Header{From: "a", To: "b"}, api.ErrLedgerSeq},
		{"the number below", l, api.Header{From: "a", To: "b", Seq: 3}, api.ErrLedgerSeq},
		{"the number above", l, api.Header{From: "a", To: "b", Seq: 5}, api.ErrLedgerSeq},
		{"a great number", l, api.Header{From: "a", To: "b", Seq: 1<<64 - 1}, api.ErrLedgerSeq},
		{"another number, and odd stamps", l, api.Header{From: "a", To: "b", Seq: 5, Stamps: odd}, api.ErrLedgerSeq},
		{"no number left", last, head(last, nil), api.ErrLedgerSeq},
		{"no number left, and odd stamps", last, head(last, odd), api.ErrLedgerSeq},
		{"a stamp without a name", l, head(l, odd), api.ErrLedgerForm},
		{"a stamp without a name, that is gone", l, head(l, stamp("x", all(1), 1, "", none, 1)), api.ErrLedgerForm},
		{"a stamp of the longest name", l, head(l, stamp(longName, all(1), 1)), api.OK},
		{"a stamp of a longer name", l, head(l, stamp(longName+"n", all(1), 1)), api.ErrLedgerForm},
		{"a stamp of the number 0", l, head(l, stamp("x", all(1), 0)), api.ErrLedgerForm},
		{"a stamp of the number 0 behind another one", l, head(l, stamp("x", all(1), 1, "x", all(1), 0)), api.OK},
		{"a stamp of the number 0 ahead of another one", l, head(l, stamp("x", all(1), 0, "x", all(1), 1)), api.ErrLedgerForm},
		{"a stamp of the bundle's number", l, head(l, stamp("x", all(1), 4)), api.OK},
		{"a stamp of the next number", l, head(l, stamp("x", all(1), 5)), api.ErrLedgerForm},
		{"just so many stamps", l, head(l, manyStamps(api.MaxStamps, api.MaxRefs)), api.OK},
		{"just so many stamps, and one of them again", l, head(l, append(manyStamps(api.MaxStamps, api.MaxRefs), stamp("r0001", all(1), 1)...)), api.OK},
		{"one stamp too many", l, head(l, manyStamps(api.MaxStamps+1, api.MaxRefs)), api.ErrLedgerForm},
		{"one too many that is not gone", l, head(l, manyStamps(api.MaxRefs+1, api.MaxRefs+1)), api.ErrLedgerForm},
	} {
		x, err := Sent(c.l, w.s, c.h)
		answers(t, c.what, err, c.n)
		if err != nil && !same(x, api.Ledger{}) {
			t.Errorf("%s: %v beside the error", c.what, x)
		}
	}
	before := api.Ledger{From: "a", To: "b", Next: api.MaxSeq}
	x, err := Sent(before, w.s, head(before, nil))
	tells(t, "the last number", x, err, api.Ledger{From: "a", To: "b", Next: api.MaxSeq + 1, Sent: []api.Sent{{Seq: api.MaxSeq}}}, api.OK)
}

func TestTheOldestGo(t *testing.T) { // P16.5, P16.6: of more than MaxSent
	w := newWorld()
	l, _ := Empty("a", "b")
	var tips []api.ID
	for i := range api.MaxSent + 6 {
		tips = append(tips, put(w.s, blob(fmt.Sprint(i))))
		l, _ = sends(t, l, w.s, ref("r", tips[i]))
		first := uint64(max(1, i+2-api.MaxSent))
		if len(l.Sent) != min(i+1, api.MaxSent) || l.Sent[0].Seq != first || !slices.Equal(l.Sent[0].Tips, sorted(tips[first-1])) || !slices.Equal(l.Lean, sorted(tips...)) {
			t.Errorf("bundle %d: %d wait, the first one is %d; %d lean", i+1, len(l.Sent), l.Sent[0].Seq, len(l.Lean))
		}
	}
	want := deep(l)
	want.Sent, want.Lean = nil, nil
	for _, number := range []uint64{1, 6, 7} {
		x, err := Lost(l, w.s, number)
		tells(t, fmt.Sprint("Lost ", number), x, err, want, api.OK)
	}
	want.Sent, want.Lean = l.Sent[:1], sorted(tips[6])
	x, err := Lost(l, w.s, 8)
	tells(t, "Lost 8", x, err, want, api.OK)
	want.Sent, want.Lean = l.Sent[:63], sorted(tips[6:69]...)
	x, err = Lost(l, w.s, 70)
	tells(t, "Lost the last", x, err, want, api.OK)

	// A Sent with gaps: it is counted, not taken by its numbers.
	x.Sent = slices.Clone(x.Sent)
	for i := range x.Sent {
		x.Sent[i].Seq = uint64(i + 1)
	}
	x, _ = sends(t, x, w.s, nil)
	if len(x.Sent) != 64 || x.Sent[0].Seq != 1 || x.Sent[63].Seq != 71 {
		t.Errorf("%d wait", len(x.Sent))
	}
	x, _ = sends(t, x, w.s, nil)
	if len(x.Sent) != 64 || x.Sent[0].Seq != 2 || x.Sent[63].Seq != 72 {
		t.Errorf("%d wait", len(x.Sent))
	}
}

func TestGreatest(t *testing.T) { // P16.3, by Sent: Lean and the tips together
	w := newWorld()
	merge := put(w.s, commit(w.t, "merge", w.d, w.c))
	tagged := put(w.s, tag(w.d, api.KindCommit))
	twice := put(w.s, tag(tagged, api.KindTag))
	odd := put(w.s, tag(w.c, api.KindBlob)) // it names a commit as a blob: c is behind it all the same
	other := put(w.s, blob("other"))
	lostFile, lostTree := put(w.s, blob("lost")), put(w.s, tree(w.x))
	lostTree = put(w.s, tree(other, lostFile))
	open := put(w.s, commit(lostTree, "open", w.c))
	w.s.Remove(lostTree)
	w.s.Remove(lostFile)
	for _, c := range []struct {
		what            string
		ids, behindNone []api.ID
	}{
		{"nothing", nil, nil},
		{"one", sorted(w.x), sorted(w.x)},
		{"one behind another", sorted(w.c, w.d), sorted(w.d)},
		{"the file and the commit", sorted(w.x, w.d), sorted(w.d)},
		{"the whole way", sorted(w.x, w.t, w.c, w.d, merge), sorted(merge)},
		{"by a tag", sorted(tagged, w.d, w.x), sorted(tagged)},
		{"by two tags", sorted(twice, w.c), sorted(twice)},
		{"by a tag of a wrong kind", sorted(odd, w.c), sorted(odd)},
		{"several ends", sorted(merge, twice, w.d, odd, w.t, other), sorted(merge, twice, odd, other)},
		{"what is missing stays", sorted(w.d, all(9)), sorted(w.d, all(9))},
		{"missing ones alone", sorted(all(8), all(9)), sorted(all(8), all(9))},
		{"a missing one that is named", sorted(open, lostTree), sorted(open)},
		{"behind a missing one", sorted(open, other, lostFile), sorted(open, other, lostFile)},
		{"behind a missing one, the missing one too", sorted(open, lostTree, other), sorted(open, other)},
		{"of a missing one, and what was behind it", sorted(lostTree, other, lostFile), sorted(lostTree, other, lostFile)},
	} {
		l, _ := Empty("a", "b")
		for n := range 1 << len(c.ids) { // any of them come as tips, the others are in Lean, some in both
			var stamps []api.Stamp
			l.Lean = nil
			for i, id := range c.ids {
				if n>>i&1 == 1 {
					stamps = append(stamps, api.Stamp{Name: fmt.Sprint(i), ID: id, Seq: 1}, api.Stamp{Name: fmt.Sprint("again ", i), ID: id, Seq: 1})
				}
				if n>>i&1 == 0 || (n+i)%3 == 0 {
					l.Lean = append(l.Lean, id)
				}
			}
			x, err := Sent(l, w.s, head(l, stamps))
			answers(t, c.what, err, api.OK)
			if !slices.Equal(x.Lean, c.behindNone) {
				t.Errorf("%s, %b: %.4x, want %.4x", c.what, n, x.Lean, c.behindNone)
			}
		}
	}
}

func TestLongWays(t *testing.T) { // P16.3: ids that are behind one another along long ways
	s := store.New()
	files := put(s, tree())
	root := put(s, commit(files, "root"))
	line := []api.ID{root}
	for i := range 8000 {
		line = append(line, put(s, commit(files, fmt.Sprint(i), line[i])))
	}
	l, _ := Empty("a", "b")
	l.Lean = sorted(line[7000:7256]...)
	var refs []api.Ref
	for i := range api.MaxRefs {
		refs = append(refs, api.Ref{Name: fmt.Sprint(i), ID: line[i*30]})
	}
	x, _ := sends(t, l, s, refs)
	if !slices.Equal(x.Lean, sorted(line[7650])) {
		t.Errorf("%d lean: %.4x", len(x.Lean), x.Lean)
	}
	s.Remove(line[7255]) // it is missing, but named; what is behind it is cut off
	s.Remove(line[100])
	x, _ = sends(t, l, s, refs)
	if !slices.Equal(x.Lean, sorted(line[7650], line[7254], line[90])) {
		t.Errorf("%d lean: %.4x", len(x.Lean), x.Lean)
	}
}

func TestManyGreatest(t *testing.T) { // P16.3: those with the greatest ids count
	s := store.New()
	var ids []api.ID
	for i := range 300 {
		ids = append(ids, put(s, blob(fmt.Sprint(i))))
	}
	ids = sorted(ids...)
	l, _ := Empty("a", "b")
	l.Sent = []api.Sent{{Seq: 1, Tips: ids[100:]}, {Seq: 2, Tips: ids[:40]}}
	l.Next, l.Sure, l.Lean = 3, ids[:60], ids[:200]
	var refs []api.Ref
	for i, id := range ids[44:] {
		refs = append(refs, api.Ref{Name: fmt.Sprint(i), ID: id})
	}
	x, _ := sends(t, l, s, refs)
	if !slices.Equal(x.Lean, ids[44:]) || !slices.Equal(x.Sent[2].Tips, ids[44:]) {
		t.Errorf("Sent: %d lean", len(x.Lean))
	}
	y, err := Lost(x, s, 3)
	answers(t, "Lost", err, api.OK)
	if want := slices.Concat(ids[:60], ids[100:])[4:]; !slices.Equal(y.Lean, want) {
		t.Errorf("Lost: %d lean", len(y.Lean))
	}
	y, err = Confirm(x, s, []byte("k"), seal(paper("a", "b", 1, 1), "k"))
	answers(t, "Confirm", err, api.OK)
	if want := slices.Concat(ids[:60], ids[100:])[4:]; !slices.Equal(y.Sure, want) || !slices.Equal(y.Lean, ids[44:]) {
		t.Errorf("Confirm: %d sure, %d lean", len(y.Sure), len(y.Lean))
	}
	// What is behind another one does not count: it takes nobody's place.
	root := put(s, tree(ids[50:300]...))
	l.Lean = ids[:256]
	x, _ = sends(t, l, s, ref("x", root))
	if want := sorted(append(slices.Clone(ids[:50]), root)...); !slices.Equal(x.Lean, want) {
		t.Errorf("behind a tree: %d lean", len(x.Lean))
	}
}

func TestLost(t *testing.T) { // P16.6
	w := newWorld()
	e := put(w.s, commit(w.t, "e", w.c))
	l := api.Ledger{From: "a", To: "b", Next: 11, Sent: []api.Sent{{Seq: 3, Tips: sorted(w.c, all(5))}, {Seq: 5, Tips: sorted(w.d)}, {Seq: 9, Tips: sorted(e, w.x)}, {Seq: 10}},
		Sure: sorted(w.x, all(7)), Lean: sorted(all(8), all(9)), Refs: stamp("x", w.d, 10, "y", none, 2)}
	for _, c := range []struct {
		number uint64
		sent   int
		lean   []api.ID
		n      api.Errno
	}{
		{0, 0, nil, api.ErrLedgerSeq},
		{1, 0, sorted(w.x, all(7)), api.OK},
		{2, 0, sorted(w.x, all(7)), api.OK},
		{3, 0, sorted(w.x, all(7)), api.OK},
		{4, 1, sorted(w.c, all(5), all(7)), api.OK},
		{5, 1, sorted(w.c, all(5), all(7)), api.OK},
		{6, 2, sorted(w.d, all(5), all(7)), api.OK},
		{9, 2, sorted(w.d, all(5), all(7)), api.OK},
		{10, 3, sorted(w.d, e, all(5), all(7)), api.OK},
		{11, 0, nil, api.ErrLedgerSeq},
		{12, 0, nil, api.ErrLedgerSeq},
		{1<<64 - 1, 0, nil, api.ErrLedgerSeq},
	} {
		want := deep(l)
		want.Sent, want.Lean = want.Sent[:c.sent], c.lean
		x, err := Lost(l, w.s, c.number)
		tells(t, fmt.Sprint("Lost ", c.number), x, err, want, c.n)
	}
	fresh, _ := Empty("a", "b")
	for _, number := range []uint64{0, 1, 2} {
		x, err := Lost(fresh, w.s, number)
		tells(t, "nothing was sent", x, err, x, api.ErrLedgerSeq)
	}
	last := api.Ledger{From: "a", To: "b", Next: api.MaxSeq + 1, Sent: []api.Sent{{Seq: api.MaxSeq}}}
	x, err := Lost(last, w.s, api.MaxSeq)
	last.Sent = nil
	tells(t, "the last number", x, err, last, api.OK)
	x, err = Lost(last, w.s, api.MaxSeq+1)
	tells(t, "one more", x, err, x, api.ErrLedgerSeq)
}

func TestLostOnceItIsConfirmed(t *testing.T) { // P16.6: what is sure stays
	w := newWorld()
	l, _ := Empty("a", "b")
	l, _ = sends(t, l, w.s, ref("x", w.c))
	l, _ = sends(t, l, w.s, ref("x", w.d))
	slip, _ := Slip("a", "b", []uint64{1}, nil)
	l, err := Confirm(l, w.s, nil, slip)
	answers(t, "Confirm", err, api.OK)
	want := deep(l)
	want.Sent, want.Lean = nil, sorted(w.c)
	for _, number := range []uint64{1, 2} {
		x, err := Lost(l, w.s, number)
		tells(t, fmt.Sprint("Lost ", number), x, err, want, api.OK)
	}
	// A receipt may still tell a bundle that was called lost: its tips are not known any more.
	lost, _ := Lost(l, w.s, 2)
	slip, _ = Slip("a", "b", []uint64{2}, nil)
	x, err := Confirm(lost, w.s, nil, slip)
	tells(t, "a receipt of a lost one", x, err, lost, api.OK)
}

// plant lays an object under an id that need not be its own: only so there can be a ring.
func plant(s *store.Store, id api.ID, o api.Object) {
	enc, e := object.Encode(o)
	if e != api.OK {
		panic(e)
	}
	field := reflect.ValueOf(s).Elem().FieldByName("encodings")
	encodings := reflect.NewAt(field.Type(), unsafe.Pointer(field.UnsafeAddr())).Interface().(*map[api.ID][]byte)
	(*encodings)[id] = enc
}

func TestRings(t *testing.T) { // R1: the ways end, even if there were a ring
	s := store.New()
	files := put(s, tree())
	plant(s, all(1), commit(files, "", all(2)))
	plant(s, all(2), commit(files, "", all(1)))
	plant(s, all(3), commit(files, "", all(3), all(4)))
	l := api.Ledger{From: "a", To: "b", Next: 2, Sent: []api.Sent{{Seq: 1, Tips: sorted(all(1), all(3))}}, Sure: sorted(all(2)), Lean: sorted(all(1), all(3))}
	for what, err := range calls(l, s) {
		answers(t, what, err, api.OK)
	}
	plans(t, "a ring", l, s, nil, false, sorted(all(1)), nil, api.OK) // all(4) is missing
}

func TestLongNamesDoNotShadow(t *testing.T) { // P16.5: names that are alike up to their last byte
	w := newWorld()
	l, _ := Empty("a", "b")
	long := strings.Repeat("n", api.MaxName-1)
	x, h := sends(t, l, w.s, ref(long+"b", w.c, long+"a", w.d, long, w.x))
	if want := stamp(long, w.x, 1, long+"a", w.d, 1, long+"b", w.c, 1); !slices.Equal(h.Stamps, want) || !slices.Equal(x.Refs, want) {
		t.Errorf("%.4x", h.Stamps)
	}
}
