package ledger

import (
	"fmt"
	"math/rand"
	"slices"
	"testing"

	"satchel/api"
	"satchel/store"
)

func TestExamples(t *testing.T) { // the chapter's seven examples: P16.2 to P16.10
	w := newWorld()
	l, err := Empty("home", "away")
	answers(t, "Empty", err, api.OK)
	h := plans(t, "the first", l, w.s, ref("heads/main", w.c), false, nil, stamp("heads/main", w.c, 1), api.OK)
	m, err := Sent(l, w.s, h)
	tells(t, "the first", m, err, api.Ledger{From: "home", To: "away", Next: 2, Sent: []api.Sent{{Seq: 1, Tips: sorted(w.c)}}, Lean: sorted(w.c), Refs: h.Stamps}, api.OK)
	two := ref("heads/main", w.d, "tags/x", w.c)
	stamps := stamp("heads/main", w.d, 2, "tags/x", w.c, 2)
	h = plans(t, "the second", m, w.s, two, false, sorted(w.c), stamps, api.OK)
	plans(t, "sure", m, w.s, two, true, nil, stamps, api.OK)
	n, err := Sent(m, w.s, h)
	sent := []api.Sent{{Seq: 1, Tips: sorted(w.c)}, {Seq: 2, Tips: sorted(w.c, w.d)}}
	tells(t, "the second", n, err, api.Ledger{From: "home", To: "away", Next: 3, Sent: sent, Lean: sorted(w.d), Refs: stamps}, api.OK)
	plans(t, "the third", n, w.s, two[:1], false, sorted(w.d), stamp("heads/main", w.d, 2, "tags/x", none, 3), api.OK)

	slip, err := Slip("home", "away", []uint64{2, 1, 2}, []byte("k"))
	answers(t, "Slip", err, api.OK)
	if string(slip) != string(seal(paper("home", "away", 1, 2), "k")) {
		t.Errorf("Slip: %x", slip)
	}
	x, err := Confirm(n, w.s, []byte("k"), slip)
	tells(t, "Confirm", x, err, api.Ledger{From: "home", To: "away", Next: 3, Sure: sorted(w.d), Lean: sorted(w.d), Refs: stamps}, api.OK)
	x, err = Confirm(n, w.s, []byte("j"), slip)
	tells(t, "another key", x, err, x, api.ErrLedgerReceipt)
	slip, _ = Slip("away", "home", []uint64{1}, []byte("k"))
	x, err = Confirm(n, w.s, []byte("k"), slip)
	tells(t, "another's", x, err, x, api.ErrLedgerDest)
	slip, _ = Slip("home", "away", []uint64{1, 3}, []byte("k"))
	x, err = Confirm(n, w.s, []byte("k"), slip)
	tells(t, "the number 3", x, err, x, api.ErrLedgerSeq)

	for number, want := range []api.Ledger{{}, {}, {Sent: sent[:1], Lean: sorted(w.c)}, {}} {
		want.From, want.To, want.Next, want.Refs = "home", "away", 3, stamps
		e := api.OK
		if number == 0 || number == 3 {
			e = api.ErrLedgerSeq
		}
		x, err := Lost(n, w.s, uint64(number))
		tells(t, fmt.Sprint("Lost ", number), x, err, want, e)
	}
	b, err := Encode(l)
	if err != nil || string(b) != "LEDGER01\x04home\x04away\x01\x00\x00\x00\x00" || len(b) != 23 {
		t.Errorf("Encode: %q, %v", b, err)
	}
	_, err = Empty("", "x")
	answers(t, "Empty", err, api.ErrLedgerDest)
	plans(t, "the zero id", l, w.s, ref("x", none), false, nil, nil, api.ErrLedgerForm)
}

func TestErrorsOfPlan(t *testing.T) { // P16.4: ErrLedgerMany, ErrLedgerForm, ErrLedgerSeq, ErrLedgerMany, in this order
	w := newWorld()
	l := api.Ledger{From: "a", To: "b", Next: 2}
	last := api.Ledger{From: "a", To: "b", Next: api.MaxSeq + 1}
	full := api.Ledger{From: "a", To: "b", Next: 2, Refs: manyStamps(api.MaxStamps, api.MaxRefs)}
	lastFull := full
	lastFull.Next = api.MaxSeq + 1
	many := manyRefs(api.MaxRefs)
	for _, c := range []struct {
		what string
		l    api.Ledger
		refs []api.Ref
		n    api.Errno
	}{
		{"one too many", l, append(ref("x", all(1)), many...), api.ErrLedgerMany},
		{"one too many, the zero id among them", l, append(ref("x", none), many...), api.ErrLedgerMany},
		{"one too many, no name among them", l, append(slices.Clone(many), api.Ref{ID: all(1)}), api.ErrLedgerMany},
		{"one too many, a long name among them", l, append(slices.Clone(many), api.Ref{Name: longName + "n", ID: all(1)}), api.ErrLedgerMany},
		{"one too many, and no number left", last, append(ref("x", all(1)), many...), api.ErrLedgerMany},
		{"one too many, and many stamps", lastFull, append(ref("x", all(1)), many...), api.ErrLedgerMany},
		{"just so many", l, many, api.OK},
		{"just so many, each twice", l, slices.Concat(many, many, many[:1]), api.OK},
		{"just so many, the later ones odd", l, append(slices.Clone(many), api.Ref{Name: "r0007"}), api.OK},
		{"just so many, the first ones odd", l, append(ref("r0007", none), many...), api.ErrLedgerForm},
		{"no name", l, ref("x", all(1), "", all(1)), api.ErrLedgerForm},
		{"the longest name", l, ref(longName, all(1)), api.OK},
		{"a name too long", l, ref(longName+"n", all(1)), api.ErrLedgerForm},
		{"the zero id", l, ref("x", all(1), "y", none), api.ErrLedgerForm},
		{"the zero id is the first one's", l, ref("x", none, "x", all(1)), api.ErrLedgerForm},
		{"the zero id is the second one's", l, ref("x", all(1), "x", none), api.OK},
		{"no name, and no number left", last, ref("", all(1)), api.ErrLedgerForm},
		{"the zero id, and no number left", last, ref("x", none), api.ErrLedgerForm},
		{"the zero id, and many stamps", full, ref("x", none), api.ErrLedgerForm},
		{"no number left", last, nil, api.ErrLedgerSeq},
		{"no number left, but refs", last, many, api.ErrLedgerSeq},
		{"no number left, and many stamps", lastFull, ref("x", all(1)), api.ErrLedgerSeq},
		{"one stamp too many", full, ref("x", all(1)), api.ErrLedgerMany},
		{"just so many stamps", full, ref("r0000", all(1)), api.OK},
		{"just so many stamps, all gone", full, nil, api.OK},
	} {
		_, _, err := Plan(c.l, w.s, c.refs, false)
		answers(t, c.what, err, c.n)
		if h, basis, err := Plan(c.l, w.s, c.refs, true); api.Code(err) != c.n || err != nil && (!sameHead(h, api.Header{}) || len(basis) > 0) {
			t.Errorf("%s: sure: %v, %v, %v", c.what, h, basis, err)
		}
	}
}

func TestStamps(t *testing.T) { // P16.4
	w := newWorld()
	l := api.Ledger{From: "a", To: "b", Next: 9, Refs: stamp(
		"gone, goes on", none, 2,
		"gone, is back", none, 3,
		"has changed", all(1), 4,
		"is taken away", all(1), 5,
		"stays", all(1), 6,
		"stays, of the last bundle", all(2), 8,
	)}
	refs := ref(
		"stays, of the last bundle", all(2), "stays", all(1), "new", all(1), "has changed", all(2), "gone, is back", all(1),
		"stays", all(3), "new", none, "", none, // these are not the first ones, but for the last
	)
	plans(t, "stamps", l, w.s, refs[:7], false, nil, stamp(
		"gone, goes on", none, 2,
		"gone, is back", all(1), 9,
		"has changed", all(2), 9,
		"is taken away", none, 9,
		"new", all(1), 9,
		"stays", all(1), 6,
		"stays, of the last bundle", all(2), 8,
	), api.OK)
	plans(t, "no name", l, w.s, refs, false, nil, nil, api.ErrLedgerForm)
	plans(t, "no refs", l, w.s, nil, true, nil, stamp(
		"gone, goes on", none, 2,
		"gone, is back", none, 3,
		"has changed", none, 9,
		"is taken away", none, 9,
		"stays", none, 9,
		"stays, of the last bundle", none, 9,
	), api.OK)
	plans(t, "names are sorted by their bytes", api.Ledger{From: "a", To: "b", Next: 1}, w.s,
		ref("b", all(1), "\xff", all(1), "a\x00", all(1), "a", all(1), "B", all(1), "aa", all(1)), false, nil,
		stamp("B", all(1), 1, "a", all(1), 1, "a\x00", all(1), 1, "aa", all(1), 1, "b", all(1), 1, "\xff", all(1), 1), api.OK)
	plans(t, "nothing at all", api.Ledger{From: "a", To: "b", Next: api.MaxSeq}, w.s, nil, false, nil, nil, api.OK)
}

func TestTheFirstOfManyCounts(t *testing.T) { // P16.4, P16.5: of very many refs and stamps, in any order
	r := rand.New(rand.NewSource(4))
	w := newWorld()
	l := api.Ledger{From: "a", To: "b", Next: 500}
	ids := rowOf(2000)
	for range 20 {
		var refs []api.Ref
		var stamps []api.Stamp
		for i := range ids {
			ref := api.Ref{Name: fmt.Sprintf("%03d", r.Intn(200)), ID: ids[i]}
			refs = append(refs, ref)
			stamps = append(stamps, api.Stamp{Name: ref.Name, ID: ref.ID, Seq: uint64(1 + r.Intn(500))})
		}
		h, _, err := Plan(l, w.s, refs, false)
		answers(t, "Plan", err, api.OK)
		x, err := Sent(l, w.s, head(l, stamps))
		answers(t, "Sent", err, api.OK)
		for i, ref := range firsts(refs) {
			at := slices.Index(refs, ref)
			if h.Stamps[i].ID != ref.ID || x.Refs[i] != stamps[at] {
				t.Fatalf("%s: %.4x, %.4x, want %.4x", ref.Name, h.Stamps[i], x.Refs[i], stamps[at])
			}
		}
	}
}

func TestARefThatComesAndGoes(t *testing.T) { // P16.4, P16.5: each change has the number of the bundle that first told it
	w := newWorld()
	l, _ := Empty("a", "b")
	for i, step := range []struct {
		refs []api.Ref
		want []api.Stamp
	}{
		{ref("x", w.c), stamp("x", w.c, 1)},
		{ref("x", w.c), stamp("x", w.c, 1)},
		{ref("x", w.d), stamp("x", w.d, 3)},
		{ref("x", w.c), stamp("x", w.c, 4)}, // it changes back
		{nil, stamp("x", none, 5)},
		{ref("y", w.c), stamp("x", none, 5, "y", w.c, 6)},
		{ref("y", w.c), stamp("x", none, 5, "y", w.c, 6)},           // x is gone for good
		{ref("y", w.c, "x", w.c), stamp("x", w.c, 8, "y", w.c, 6)},  // it is back with its last id
		{ref("y", w.c, "x", w.c), stamp("x", w.c, 8, "y", w.c, 6)},  //
		{ref("y", w.x, "x", w.c), stamp("x", w.c, 8, "y", w.x, 10)}, //
		{nil, stamp("x", none, 11, "y", none, 11)},                  //
		{ref("y", w.x), stamp("x", none, 11, "y", w.x, 12)},         //
		{ref("z", w.x), stamp("x", none, 11, "y", none, 13, "z", w.x, 13)},
	} {
		var h api.Header
		l, h = sends(t, l, w.s, step.refs)
		if !slices.Equal(h.Stamps, step.want) || !slices.Equal(l.Refs, step.want) {
			t.Errorf("bundle %d: %.4x, want %.4x", i+1, h.Stamps, step.want)
		}
	}
}

func TestBasis(t *testing.T) { // P16.4: of Sure or Lean what is wholly there
	w := newWorld()
	tagged := put(w.s, tag(w.d, api.KindCommit))
	odd := put(w.s, tag(w.x, api.KindTree)) // it names a blob as a tree: all is there all the same
	lost := put(w.s, blob("lost"))
	open := put(w.s, tree(w.x, lost))
	openCommit := put(w.s, commit(open, "open"))
	behind := put(w.s, commit(w.t, "behind", w.d, openCommit))
	farBehind := put(w.s, tag(behind, api.KindCommit))
	w.s.Remove(lost)
	everything := sorted(w.x, w.t, w.c, w.d, tagged, odd, lost, open, openCommit, behind, farBehind, all(9))
	closed := sorted(w.x, w.t, w.c, w.d, tagged, odd)
	l := api.Ledger{From: "a", To: "b", Next: 5, Lean: everything, Sure: sorted(w.d, behind)}
	plans(t, "lean", l, w.s, nil, false, closed, nil, api.OK)
	plans(t, "sure", l, w.s, nil, true, sorted(w.d), nil, api.OK)
	l.Sure, l.Lean = l.Lean, l.Sure
	plans(t, "the other way round: lean", l, w.s, nil, false, sorted(w.d), nil, api.OK)
	plans(t, "the other way round: sure", l, w.s, nil, true, closed, nil, api.OK)
	for _, id := range everything {
		l.Lean = sorted(id)
		var want []api.ID
		if slices.Contains(closed, id) {
			want = l.Lean
		}
		plans(t, "one alone", l, w.s, nil, false, want, nil, api.OK)
	}
	w.s.Remove(w.x)
	l.Lean = everything
	plans(t, "without the blob", l, w.s, nil, false, nil, nil, api.OK)
	plans(t, "of an empty store", l, store.New(), nil, false, nil, nil, api.OK)
	put(w.s, blob("x"))
	put(w.s, blob("lost"))
	plans(t, "all is back", l, w.s, nil, false, less(everything, all(9)), nil, api.OK)
}

// less tells the ids without one.
func less(ids []api.ID, id api.ID) []api.ID {
	return slices.DeleteFunc(slices.Clone(ids), func(x api.ID) bool { return x == id })
}

func TestAGreatBasis(t *testing.T) { // P16.4: MaxBasis ids, each at the end of a long way, and one missing far behind half of them
	s := store.New()
	l := api.Ledger{From: "a", To: "b", Next: 5}
	lost := put(s, tree())
	root := put(s, commit(lost, "root"))
	whole := put(s, tree(put(s, blob("x"))))
	ends := []api.ID{put(s, commit(whole, "sound")), root}
	for i := range 3500 {
		for k := range ends {
			ends[k] = put(s, commit(whole, fmt.Sprint(i, k), ends[k]))
		}
	}
	s.Remove(lost)
	var want []api.ID
	for i := range api.MaxBasis {
		end := put(s, commit(whole, fmt.Sprint("end", i), ends[i%2]))
		l.Lean = append(l.Lean, end)
		if i%2 == 0 {
			want = append(want, end)
		}
	}
	l.Lean = sorted(l.Lean...)
	plans(t, "a great basis", l, s, nil, false, sorted(want...), nil, api.OK)
}
