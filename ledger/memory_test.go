package ledger

import (
	"bytes"
	"errors"
	"fmt"
	"runtime"
	"slices"
	"testing"

	"satchel/api"
	"satchel/store"
)

// roomy tells a copy of a list with spare room behind its end, and the whole of it.
func roomy[T any](list []T, behind ...T) (given, whole []T) {
	whole = slices.Concat(list, behind)
	return whole[:len(list)], whole
}

// spoil writes over a list and the spare room behind its end.
func spoil[T any](list []T, item T) {
	list = list[:cap(list)]
	for i := range list {
		list[i] = item
	}
}

// lent is a ledger whose lists have spare room, with enough in it for all that a call could write there.
type lent struct {
	l    api.Ledger
	sent []api.Sent
	ids  [][]api.ID
	refs []api.Stamp
}

func lend(l api.Ledger) *lent {
	x := &lent{l: deep(l)}
	ids := func(list []api.ID) []api.ID {
		given, whole := roomy(list, rowOf(300)...)
		x.ids = append(x.ids, whole)
		return given
	}
	for i := range x.l.Sent {
		x.l.Sent[i].Tips = ids(x.l.Sent[i].Tips)
	}
	x.l.Sent, x.sent = roomy(x.l.Sent, make([]api.Sent, 70)...)
	x.l.Sure, x.l.Lean = ids(x.l.Sure), ids(x.l.Lean)
	x.l.Refs, x.refs = roomy(x.l.Refs, manyStamps(520, 3)...)
	return x
}

func (x *lent) text() string { return fmt.Sprint(x.l, x.sent, x.ids, x.refs) }

func (x *lent) spoil() {
	for _, list := range x.ids {
		spoil(list, all(255))
	}
	spoil(x.sent, api.Sent{})
	spoil(x.refs, api.Stamp{})
}

// spoilLedger writes over all lists of a ledger, each once, and looks whether the others stay.
func spoilLedger(t *testing.T, what string, l api.Ledger) {
	t.Helper()
	rest := deep(l)
	for i := range l.Sent {
		spoil(l.Sent[i].Tips, all(254))
		rest.Sent[i].Tips = slices.Repeat([]api.ID{all(254)}, len(rest.Sent[i].Tips))
		sameStill(t, what, l, rest)
	}
	for _, list := range []*[]api.ID{&l.Sure, &l.Lean} {
		spoil(*list, all(253))
		other := &rest.Sure
		if list == &l.Lean {
			other = &rest.Lean
		}
		*other = slices.Repeat([]api.ID{all(253)}, len(*list))
		sameStill(t, what, l, rest)
	}
	spoil(l.Refs, api.Stamp{})
	rest.Refs = make([]api.Stamp, len(rest.Refs))
	sameStill(t, what, l, rest)
	spoil(l.Sent, api.Sent{})
}

func sameStill(t *testing.T, what string, l, want api.Ledger) {
	t.Helper()
	if !same(l, want) {
		t.Errorf("%s: two lists of one answer share memory", what)
	}
}

func TestMemoryOfLedgers(t *testing.T) { // P16.14, R2: what is handed in, what is answered
	w := newWorld()
	full := sentAll(w)
	for n := range uint64(60) { // so the oldest one goes
		full.Sent = append(full.Sent, api.Sent{Seq: 11 + n, Tips: sorted(all(byte(n+1)), w.c)})
	}
	full.Sent = full.Sent[1:]
	full.Next = 71
	receipt, wholeReceipt := roomy(seal(paper("home", "away", 1, 4, 20, 70), "k"), []byte("spare room")...)
	key, wholeKey := roomy([]byte("k"), []byte("spare room")...)
	stamps, wholeStamps := roomy(stamp("z", w.d, 3, "a", w.c, 4, "z", w.x, 5), manyStamps(600, 3)...)
	basis, wholeBasis := roomy(sorted(w.x, w.c), rowOf(300)...)
	was := fmt.Sprint(wholeReceipt, wholeKey, wholeStamps, wholeBasis)
	ids := w.s.Ids()
	h := api.Header{From: "home", To: "away", Seq: 71, Basis: basis, Stamps: stamps}
	for what, call := range map[string]func(l api.Ledger) (api.Ledger, error){
		"Sent":    func(l api.Ledger) (api.Ledger, error) { return Sent(l, w.s, h) },
		"Lost":    func(l api.Ledger) (api.Ledger, error) { return Lost(l, w.s, 30) },
		"Confirm": func(l api.Ledger) (api.Ledger, error) { return Confirm(l, w.s, key, receipt) },
		"Parse":   func(l api.Ledger) (api.Ledger, error) { return Parse(lay(l)) },
	} {
		x := lend(full)
		text := x.text()
		one, err := call(x.l)
		answers(t, what, err, api.OK)
		two, _ := call(x.l)
		for _, bad := range []func(l *api.Ledger){func(l *api.Ledger) { l.Next = 0 }, func(l *api.Ledger) { l.From = "else" }, func(l *api.Ledger) { l.Next = 72 }} {
			l := x.l
			bad(&l)
			call(l)
		}
		if x.text() != text || fmt.Sprint(wholeReceipt, wholeKey, wholeStamps, wholeBasis) != was || !slices.Equal(w.s.Ids(), ids) {
			t.Errorf("%s: what is handed in, or the room behind it, is changed", what)
		}
		want := deep(one)
		spoilLedger(t, what, two)
		if !same(one, want) || x.text() != text || fmt.Sprint(wholeStamps, wholeBasis) != was[len(fmt.Sprint(wholeReceipt, wholeKey))+1:] {
			t.Errorf("%s: an answer shares memory", what)
		}
		x.spoil()
		if !same(one, want) {
			t.Errorf("%s: an answer shares memory with what was handed in", what)
		}
	}
	x := lend(full)
	one, _ := Sent(x.l, w.s, h)
	want := deep(one)
	spoil(wholeStamps, api.Stamp{})
	spoil(wholeBasis, none)
	if !same(one, want) {
		t.Error("Sent: an answer shares memory with the header")
	}
}

func TestMemoryOfPlan(t *testing.T) { // P16.14, R2
	w := newWorld()
	l := sentAll(w)
	l.Lean, l.Sure = sorted(w.x, w.d), sorted(w.c, w.t)
	refs, wholeRefs := roomy(ref("z", w.d, "a", w.c, "z", none, "x", w.d), manyRefs(600)...)
	for _, sure := range []bool{false, true} {
		x := lend(l)
		text, was := x.text(), fmt.Sprint(wholeRefs)
		h, basis, err := Plan(x.l, w.s, refs, sure)
		answers(t, "Plan", err, api.OK)
		g, again, _ := Plan(x.l, w.s, refs, sure)
		Plan(x.l, w.s, append(slices.Clone(refs), api.Ref{}), sure)
		if x.text() != text || fmt.Sprint(wholeRefs) != was {
			t.Error("what is handed in, or the room behind it, is changed")
		}
		want := h
		want.Basis, want.Stamps = slices.Clone(h.Basis), slices.Clone(h.Stamps)
		wantBasis := slices.Clone(basis)
		spoil(g.Basis, none)
		if !slices.Equal(again, wantBasis) || len(again) == 0 {
			t.Error("Basis and the header's share memory")
		}
		spoil(again, all(255))
		spoil(g.Stamps, api.Stamp{})
		if x.text() != text || fmt.Sprint(wholeRefs) != was || !sameHead(h, want) || !slices.Equal(basis, wantBasis) {
			t.Error("an answer shares memory")
		}
		x.spoil()
		if !sameHead(h, want) || !slices.Equal(basis, wantBasis) {
			t.Error("an answer shares memory with what was handed in")
		}
	}
	h, _, _ := Plan(l, w.s, refs, false)
	want := slices.Clone(h.Stamps)
	spoil(wholeRefs, api.Ref{})
	if !slices.Equal(h.Stamps, want) {
		t.Error("the stamps share memory with the refs")
	}
}

func TestMemoryOfBytes(t *testing.T) { // P16.14, R2: Slip, Encode, Parse
	numbers, wholeNumbers := roomy([]uint64{5, 1, 5, 2, 9}, 7, 7, 7, 7, 7, 7)
	key, wholeKey := roomy([]byte("k"), []byte("spare room of a key")...)
	one, _ := Slip("a", "b", numbers, key)
	two, _ := Slip("a", "b", numbers, key)
	Slip("a", "b", append(slices.Clone(numbers), 0), key)
	if !slices.Equal(wholeNumbers, []uint64{5, 1, 5, 2, 9, 7, 7, 7, 7, 7, 7}) || string(wholeKey) != "kspare room of a key" {
		t.Error("Slip: what is handed in is changed")
	}
	spoil(two, 'z')
	spoil(wholeNumbers, 3)
	spoil(wholeKey, 'z')
	if string(one) != string(seal(paper("a", "b", 1, 2, 5, 5, 9, 9), "k")) {
		t.Error("Slip: an answer shares memory")
	}

	x := lend(small())
	text := x.text()
	one, _ = Encode(x.l)
	two, _ = Encode(x.l)
	spoil(two, 'z')
	if x.text() != text || !bytes.Equal(one, lay(small())) {
		t.Error("Encode: an answer shares memory, or what is handed in is changed")
	}

	b, whole := roomy(lay(small()), []byte("spare room")...)
	l, err := Parse(b)
	tells(t, "Parse", l, err, small(), api.OK)
	parses(t, "the spare room too", whole, l, api.ErrLedgerForm)
	if !bytes.Equal(whole, append(lay(small()), "spare room"...)) {
		t.Error("Parse: what is handed in is changed")
	}
	spoil(whole, 'z')
	if !same(l, small()) {
		t.Error("Parse: an answer shares memory with the bytes")
	}
}

func TestFaultsAreNewMemory(t *testing.T) { // R2, R4
	for what, call := range map[string]func() error{
		"Empty":   func() error { _, err := Empty("", ""); return err },
		"Parse":   func() error { _, err := Parse([]byte("LEDGER01")); return err },
		"Confirm": func() error { _, err := Confirm(small(), store.New(), nil, nil); return err },
		"cut":     func() error { _, err := Confirm(small(), store.New(), nil, seal([]byte("RECEIPT1"), "")); return err },
	} {
		var one, two *api.Fault
		if !errors.As(call(), &one) || !errors.As(call(), &two) {
			t.Fatalf("%s: no Fault", what)
		}
		was := *one
		*two = api.Fault{}
		if one == two || one.Op != was.Op || one.At != was.At || one.Err != was.Err || one.Error() == "" {
			t.Errorf("%s: two answers share a Fault", what)
		}
	}
}

// taken tells how many bytes of memory a call takes.
func taken(call func()) uint64 {
	var before, after runtime.MemStats
	runtime.GC()
	runtime.ReadMemStats(&before)
	call()
	runtime.ReadMemStats(&after)
	return after.TotalAlloc - before.TotalAlloc
}

func TestNothingIsLaidOutByANumber(t *testing.T) { // R6: ranges of very many numbers, counts of items that are not there
	s := store.New()
	last := api.Ledger{From: "a", To: "b", Next: api.MaxSeq + 1}
	receipt := seal(paper("a", "b", 1, api.MaxSeq), "")
	if n := taken(func() { Confirm(last, s, nil, receipt) }); n > 20000 {
		t.Errorf("%d bytes are taken for a range", n)
	}
	for _, text := range []string{"LEDGER01\x01a\x01b\x01", "LEDGER01\x01a\x01b\x02\x00", "LEDGER01\x01a\x01b\x02\x00\x00", "LEDGER01\x01a\x01b\x02\x00\x00\x00", "LEDGER01\x01a\x01b\x02\x01\x01", "LEDGER01"} {
		for _, number := range []string{"\x40", "\x80\x02", "\x80\x04", "\xff\xff\xff\x7f", "\xff\xff\xff\xff\xff\xff\xff\xff\xff\x01"} {
			b := []byte(text + number)
			if n := taken(func() { Parse(b) }); n > 20000 {
				t.Errorf("%q: %d bytes are taken", b, n)
			}
			parses(t, text, b, api.Ledger{}, api.ErrLedgerForm)
		}
	}
}
