package ledger

import (
	"fmt"
	"math/rand"
	"slices"
	"testing"

	"satchel/api"
	"satchel/store"
)

// slips looks what Slip answers: the receipt of these ranges, or an error.
func slips(t *testing.T, what, from, to string, numbers []uint64, key string, n api.Errno, ranges ...uint64) {
	t.Helper()
	b, err := Slip(from, to, numbers, []byte(key))
	answers(t, what, err, n)
	want := seal(paper(from, to, ranges...), key)
	if n != api.OK {
		want = nil
	}
	if string(b) != string(want) {
		t.Errorf("%s: %x, want %x", what, b, want)
	}
}

func TestSlip(t *testing.T) { // P16.7, P16.8
	for _, c := range []struct {
		numbers, ranges []uint64
	}{
		{nil, nil},
		{[]uint64{}, nil},
		{[]uint64{1}, []uint64{1, 1}},
		{[]uint64{7, 7, 7}, []uint64{7, 7}},
		{[]uint64{2, 1, 2}, []uint64{1, 2}},
		{[]uint64{1, 3}, []uint64{1, 1, 3, 3}},
		{[]uint64{3, 1, 2}, []uint64{1, 3}},
		{[]uint64{9, 5, 4, 3, 8, 9, 1, 3}, []uint64{1, 1, 3, 5, 8, 9}},
		{[]uint64{api.MaxSeq, 1}, []uint64{1, 1, api.MaxSeq, api.MaxSeq}},
		{[]uint64{api.MaxSeq, api.MaxSeq - 1, api.MaxSeq - 3}, []uint64{api.MaxSeq - 3, api.MaxSeq - 3, api.MaxSeq - 1, api.MaxSeq}},
		{[]uint64{127, 128, 129, 255, 300}, []uint64{127, 129, 255, 255, 300, 300}},
	} {
		slips(t, fmt.Sprint(c.numbers), "home", "away", c.numbers, "k", api.OK, c.ranges...)
	}
	slips(t, "the longest names", longName, longName, []uint64{1}, "k", api.OK, 1, 1)
	slips(t, "one name, of one byte", "\x00", "\x00", []uint64{1}, "k", api.OK, 1, 1)
	slips(t, "no key", "a", "b", []uint64{1}, "", api.OK, 1, 1)
	slips(t, "a long key", "a", "b", []uint64{1}, longName, api.OK, 1, 1)
}

// odds tells so many numbers that make a range each, in falling order.
func odds(n int) []uint64 {
	var list []uint64
	for i := range uint64(n) {
		list = append(list, 2*(uint64(n)-i)+1)
	}
	return list
}

func TestErrorsOfSlip(t *testing.T) { // P16.8: ErrLedgerDest, ErrLedgerSeq, ErrLedgerMany, in this order
	many := odds(api.MaxRanges + 1)
	for _, c := range []struct {
		what, from, to string
		numbers        []uint64
		n              api.Errno
	}{
		{"no source", "", "b", nil, api.ErrLedgerDest},
		{"no destination", "a", "", []uint64{1}, api.ErrLedgerDest},
		{"a long source", longName + "n", "b", nil, api.ErrLedgerDest},
		{"a long destination", "a", longName + "n", nil, api.ErrLedgerDest},
		{"no source, and the number 0", "", "b", []uint64{0}, api.ErrLedgerDest},
		{"no destination, and many ranges", "a", "", many, api.ErrLedgerDest},
		{"the number 0", "a", "b", []uint64{1, 0}, api.ErrLedgerSeq},
		{"the number 0 ahead of 1", "a", "b", []uint64{0, 1, 2}, api.ErrLedgerSeq},
		{"one too great", "a", "b", []uint64{1, api.MaxSeq + 1}, api.ErrLedgerSeq},
		{"one too great, behind the greatest", "a", "b", []uint64{api.MaxSeq, api.MaxSeq + 1}, api.ErrLedgerSeq},
		{"the greatest that there is", "a", "b", []uint64{1<<64 - 1}, api.ErrLedgerSeq},
		{"the greatest that there is, and the number 0", "a", "b", []uint64{1<<64 - 1, 0, 1}, api.ErrLedgerSeq},
		{"the number 0, and many ranges", "a", "b", append(odds(api.MaxRanges+1), 0), api.ErrLedgerSeq},
		{"one too great, and many ranges", "a", "b", append(odds(api.MaxRanges+1), api.MaxSeq+1), api.ErrLedgerSeq},
		{"one range too many", "a", "b", many, api.ErrLedgerMany},
	} {
		slips(t, c.what, c.from, c.to, c.numbers, "k", c.n)
	}
	var ranges []uint64
	for i := range uint64(api.MaxRanges) {
		ranges = append(ranges, 2*i+3, 2*i+3)
	}
	slips(t, "just so many ranges", "a", "b", odds(api.MaxRanges), "k", api.OK, ranges...)
	slips(t, "just so many ranges, and each number twice", "a", "b", slices.Concat(odds(api.MaxRanges), odds(api.MaxRanges)), "k", api.OK, ranges...)
	ranges[1], ranges = 5, slices.Delete(ranges, 2, 4)
	ranges = append(ranges, 515, 515)
	slips(t, "two rows made one by what is between", "a", "b", append(odds(api.MaxRanges+1), 4), "k", api.OK, ranges...)
}

// sentAll is a ledger of ten bundles, of which 2, 4, 5, 7 and 10 wait.
func sentAll(w *world) api.Ledger {
	return api.Ledger{From: "home", To: "away", Next: 11,
		Sent: []api.Sent{{Seq: 2, Tips: sorted(w.c, all(5))}, {Seq: 4, Tips: sorted(w.d)}, {Seq: 5}, {Seq: 7, Tips: sorted(w.t, all(6))}, {Seq: 10, Tips: sorted(w.x)}},
		Sure: sorted(w.t, all(7)), Lean: sorted(w.x, all(8)), Refs: stamp("x", w.d, 10, "y", none, 2)}
}

func TestConfirm(t *testing.T) { // P16.9
	w := newWorld()
	for _, c := range []struct {
		ranges     []uint64
		left       []uint64
		sure, lean []api.ID
	}{
		{nil, []uint64{2, 4, 5, 7, 10}, sorted(w.t, all(7)), sorted(w.t, all(7), all(8))},
		{[]uint64{1, 1}, []uint64{2, 4, 5, 7, 10}, sorted(w.t, all(7)), sorted(w.t, all(7), all(8))},
		{[]uint64{2, 2}, []uint64{4, 5, 7, 10}, sorted(w.c, all(5), all(7)), sorted(w.c, all(5), all(7), all(8))},
		{[]uint64{3, 4}, []uint64{2, 5, 7, 10}, sorted(w.d, all(7)), sorted(w.d, all(7), all(8))},
		{[]uint64{5, 6}, []uint64{2, 4, 7, 10}, sorted(w.t, all(7)), sorted(w.t, all(7), all(8))},
		{[]uint64{2, 2, 4, 4}, []uint64{5, 7, 10}, sorted(w.d, all(5), all(7)), sorted(w.d, all(5), all(7), all(8))},
		{[]uint64{1, 3, 5, 7, 9, 9}, []uint64{4, 10}, sorted(w.c, all(5), all(6), all(7)), sorted(w.c, all(5), all(6), all(7), all(8))},
		{[]uint64{10, 10}, []uint64{2, 4, 5, 7}, sorted(w.t, all(7)), sorted(w.t, all(7), all(8))},
		{[]uint64{1, 10}, nil, sorted(w.d, all(5), all(6), all(7)), sorted(w.d, all(5), all(6), all(7), all(8))},
	} {
		l := sentAll(w)
		want := deep(l)
		want.Sent = slices.DeleteFunc(want.Sent, func(x api.Sent) bool { return !slices.Contains(c.left, x.Seq) })
		want.Sure, want.Lean = c.sure, c.lean
		receipt := seal(paper("home", "away", c.ranges...), "k")
		x, err := Confirm(l, w.s, []byte("k"), receipt)
		tells(t, fmt.Sprint(c.ranges), x, err, want, api.OK)
		x, err = Confirm(x, w.s, []byte("k"), receipt) // P16.13
		tells(t, fmt.Sprint(c.ranges, " again"), x, err, want, api.OK)
	}
	l, _ := Empty("a", "b")
	x, err := Confirm(l, w.s, nil, seal(paper("a", "b"), ""))
	tells(t, "nothing of nothing", x, err, l, api.OK)
	last := api.Ledger{From: "a", To: "b", Next: api.MaxSeq + 1, Sent: []api.Sent{{Seq: 1, Tips: sorted(w.c)}, {Seq: api.MaxSeq, Tips: sorted(w.d)}}}
	x, err = Confirm(last, w.s, nil, seal(paper("a", "b", 1, api.MaxSeq), ""))
	tells(t, "all numbers that there are", x, err, api.Ledger{From: "a", To: "b", Next: api.MaxSeq + 1, Sure: sorted(w.d), Lean: sorted(w.d)}, api.OK)
}

func TestLeanIsWithThisSure(t *testing.T) { // P16.9: what is behind nothing sure before is behind what is sure now
	w := newWorld()
	l := api.Ledger{From: "a", To: "b", Next: 3, Sent: []api.Sent{{Seq: 2, Tips: sorted(w.d)}}, Sure: sorted(w.x), Lean: sorted(w.c, w.t)}
	x, err := Confirm(l, w.s, nil, seal(paper("a", "b", 2, 2), ""))
	tells(t, "Confirm", x, err, api.Ledger{From: "a", To: "b", Next: 3, Sure: sorted(w.d), Lean: sorted(w.d)}, api.OK)
	// Of a store in which d is missing nothing is behind it.
	w.s.Remove(w.d)
	x, err = Confirm(l, w.s, nil, seal(paper("a", "b", 2, 2), ""))
	tells(t, "without d", x, err, api.Ledger{From: "a", To: "b", Next: 3, Sure: sorted(w.d, w.x), Lean: sorted(w.c, w.d)}, api.OK)
}

func TestWhatIsNoReceipt(t *testing.T) { // P16.9: a receipt is just what Slip writes
	w := newWorld()
	l := sentAll(w)
	var tooMany, justMany []uint64
	for i := range uint64(api.MaxRanges + 1) {
		tooMany = append(tooMany, 2*i+1, 2*i+1)
	}
	justMany = tooMany[:2*api.MaxRanges]
	long := l
	long.Next = 1000
	right := paper("home", "away", 1, 2, 4, 4)
	for _, c := range []struct {
		what string
		l    api.Ledger
		body []byte
		n    api.Errno
	}{
		{"a receipt", l, right, api.OK},
		{"no range", l, paper("home", "away"), api.OK},
		{"rows with gaps of one", l, paper("home", "away", 1, 1, 3, 3, 5, 6, 8, 10), api.OK},
		{"rows that touch", l, paper("home", "away", 1, 1, 2, 3), api.ErrLedgerReceipt},
		{"rows that touch, later on", l, paper("home", "away", 1, 1, 3, 4, 5, 5), api.ErrLedgerReceipt},
		{"rows that overlap", l, paper("home", "away", 1, 3, 3, 4), api.ErrLedgerReceipt},
		{"rows that overlap wholly", l, paper("home", "away", 1, 9, 3, 4), api.ErrLedgerReceipt},
		{"one row twice", l, paper("home", "away", 1, 3, 1, 3), api.ErrLedgerReceipt},
		{"rows that fall", l, paper("home", "away", 5, 6, 1, 2), api.ErrLedgerReceipt},
		{"a row that falls", l, paper("home", "away", 3, 2), api.ErrLedgerReceipt},
		{"a row that falls by far", l, paper("home", "away", 9, 1), api.ErrLedgerReceipt},
		{"a row from 0", l, paper("home", "away", 0, 2), api.ErrLedgerReceipt},
		{"the row of 0", l, paper("home", "away", 0, 0), api.ErrLedgerReceipt},
		{"a number above the greatest", l, paper("home", "away", 1, api.MaxSeq+1), api.ErrLedgerReceipt},
		{"a number far above the greatest", l, paper("home", "away", 1, 1<<64-1), api.ErrLedgerReceipt},
		{"a row above the greatest", l, paper("home", "away", api.MaxSeq+1, api.MaxSeq+1), api.ErrLedgerReceipt},
		{"just so many rows", long, paper("home", "away", justMany...), api.OK},
		{"one row too many", long, paper("home", "away", tooMany...), api.ErrLedgerReceipt},
		{"a byte behind", l, append(slices.Clone(right), 0), api.ErrLedgerReceipt},
		{"fewer rows than said", l, append(paper("home", "away")[:18], 2, 1, 1), api.ErrLedgerReceipt},
		{"half a row", l, append(paper("home", "away")[:18], 1, 1), api.ErrLedgerReceipt},
		{"more rows than said", l, append(paper("home", "away")[:18], 0, 1, 1), api.ErrLedgerReceipt},
		{"a long number of rows", l, append(paper("home", "away")[:18], 0x81, 0, 1, 1), api.ErrLedgerReceipt},
		{"a long number", l, append(paper("home", "away")[:18], 1, 0x81, 0, 1), api.ErrLedgerReceipt},
		{"a great number of rows", l, append(paper("home", "away")[:18], 0xff, 0xff, 0xff, 0xff, 0xff, 0xff, 0xff, 0xff, 0x7f), api.ErrLedgerReceipt},
		{"another mark", l, append([]byte("RECEIPT2"), right[8:]...), api.ErrLedgerReceipt},
		{"a ledger's mark", l, append([]byte("LEDGER01"), right[8:]...), api.ErrLedgerReceipt},
		{"no mark", l, right[8:], api.ErrLedgerReceipt},
		{"nothing", l, nil, api.ErrLedgerReceipt},
		{"no source", l, paper("", "away", 1, 1), api.ErrLedgerReceipt},
		{"no destination", l, paper("home", "", 1, 1), api.ErrLedgerReceipt},
		{"a long source", l, paper(longName+"n", "away", 1, 1), api.ErrLedgerReceipt},
		{"a long destination", l, paper("home", longName+"n", 1, 1), api.ErrLedgerReceipt},
	} {
		for _, key := range []string{"", "k", longName} {
			x, err := Confirm(c.l, w.s, []byte(key), seal(c.body, key))
			answers(t, c.what, err, c.n)
			if err != nil && !same(x, api.Ledger{}) {
				t.Errorf("%s: %v beside the error", c.what, x)
			}
			x, err = Confirm(c.l, w.s, []byte(key+"x"), seal(c.body, key))
			tells(t, c.what+": another key", x, err, x, api.ErrLedgerReceipt)
		}
	}
}

func TestReceiptsThatAreHurt(t *testing.T) { // P16.9: cut, a byte behind, a bit turned, sealed anew or not
	w := newWorld()
	l := sentAll(w)
	body := paper("home", "away", 1, 2, 4, 4, 6, 9)
	right := seal(body, "k")
	refuses := func(what string, b []byte) {
		t.Helper()
		x, err := Confirm(l, w.s, []byte("k"), b)
		tells(t, what, x, err, x, api.ErrLedgerReceipt)
	}
	refuses("a byte behind", append(slices.Clone(right), 0))
	for i := range right {
		refuses("cut", right[:i])
		refuses("cut in front", right[i+1:])
		for bit := range 8 {
			hurt := slices.Clone(right)
			hurt[i] ^= 1 << bit
			refuses("a bit turned", hurt)
		}
	}
	for i := range body {
		refuses("cut and sealed", seal(body[:i], "k"))
	}
	for i := range body {
		for b := range 256 {
			hurt := slices.Clone(body)
			hurt[i] = byte(b)
			_, err := Confirm(l, w.s, []byte("k"), seal(hurt, "k"))
			answers(t, fmt.Sprintf("byte %d is %d", i, b), err, confirmError(l, hurt))
		}
	}
}

func TestErrorsOfConfirm(t *testing.T) { // P16.9: ErrLedgerReceipt, ErrLedgerDest, ErrLedgerSeq, in this order
	w := newWorld()
	l := sentAll(w)
	for _, c := range []struct {
		what string
		body []byte
		key  string
		n    api.Errno
	}{
		{"another's, and another key", paper("away", "home", 1, 1), "j", api.ErrLedgerReceipt},
		{"another's, and rows that touch", paper("away", "home", 1, 1, 2, 2), "k", api.ErrLedgerReceipt},
		{"a great number, and another key", paper("home", "away", 11, 11), "j", api.ErrLedgerReceipt},
		{"a great number, and rows that touch", paper("home", "away", 1, 11, 12, 12), "k", api.ErrLedgerReceipt},
		{"another source", paper("away", "away", 1, 1), "k", api.ErrLedgerDest},
		{"another destination", paper("home", "home", 1, 1), "k", api.ErrLedgerDest},
		{"a longer source", paper("homes", "away", 1, 1), "k", api.ErrLedgerDest},
		{"the names run together", paper("homea", "way", 1, 1), "k", api.ErrLedgerDest},
		{"the other way round", paper("away", "home", 1, 1), "k", api.ErrLedgerDest},
		{"the longest names", paper(longName, longName, 1, 1), "k", api.ErrLedgerDest},
		{"another source, and a great number", paper("away", "away", 11, 11), "k", api.ErrLedgerDest},
		{"another destination, no number", paper("home", "home"), "k", api.ErrLedgerDest},
		{"the next number", paper("home", "away", 11, 11), "k", api.ErrLedgerSeq},
		{"up to the next number", paper("home", "away", 1, 11), "k", api.ErrLedgerSeq},
		{"the greatest number", paper("home", "away", 1, 1, api.MaxSeq, api.MaxSeq), "k", api.ErrLedgerSeq},
		{"all numbers", paper("home", "away", 1, api.MaxSeq), "k", api.ErrLedgerSeq},
		{"the one below the next", paper("home", "away", 10, 10), "k", api.OK},
	} {
		x, err := Confirm(l, w.s, []byte("k"), seal(c.body, c.key))
		answers(t, c.what, err, c.n)
		if err != nil && !same(x, api.Ledger{}) {
			t.Errorf("%s: %v beside the error", c.what, x)
		}
	}
	fresh, _ := Empty("home", "away")
	x, err := Confirm(fresh, w.s, nil, seal(paper("home", "away", 1, 1), ""))
	tells(t, "nothing was sent", x, err, x, api.ErrLedgerSeq)
}

func TestSlipIsTaken(t *testing.T) { // P16.8, P16.9, P16.13: drawn numbers, in any order, any number of times
	r := rand.New(rand.NewSource(16))
	w := newWorld()
	for range 300 {
		l := api.Ledger{From: "a", To: "b", Next: uint64(2 + r.Intn(100))}
		for n := uint64(1); n < l.Next && len(l.Sent) < api.MaxSent; n++ {
			if r.Intn(3) > 0 {
				l.Sent = append(l.Sent, api.Sent{Seq: n, Tips: sorted([]api.ID{w.x, w.t, w.c, w.d, all(9)}[r.Intn(5)])})
			}
		}
		var receipts [][]byte
		told := map[uint64]int{}
		for range 1 + r.Intn(4) {
			var numbers []uint64
			for range r.Intn(60) {
				numbers = append(numbers, 1+r.Uint64()%(l.Next-1))
				told[numbers[len(numbers)-1]]++
			}
			b, err := Slip("a", "b", numbers, []byte("key"))
			answers(t, "Slip", err, api.OK)
			receipts = append(receipts, b)
		}
		x := l
		for i := range 3 * len(receipts) {
			k := i % len(receipts)
			if i >= len(receipts) { // behind each once: any
				k = r.Intn(len(receipts))
			}
			next, err := Confirm(x, w.s, []byte("key"), receipts[k])
			answers(t, "Confirm", err, api.OK)
			twice, err := Confirm(next, w.s, []byte("key"), receipts[k])
			tells(t, "twice", twice, err, next, api.OK)
			x = next
		}
		want := slices.DeleteFunc(slices.Clone(l.Sent), func(x api.Sent) bool { return told[x.Seq] > 0 })
		if !slices.EqualFunc(x.Sent, want, func(a, b api.Sent) bool { return a.Seq == b.Seq && slices.Equal(a.Tips, b.Tips) }) {
			t.Errorf("%v wait, want %v", x.Sent, want)
		}
		slices.Reverse(receipts) // the order does not matter to Sent
		y := l
		for _, b := range receipts {
			y, _ = Confirm(y, w.s, []byte("key"), b)
		}
		if !slices.EqualFunc(y.Sent, x.Sent, func(a, b api.Sent) bool { return a.Seq == b.Seq }) || !slices.Equal(y.Sure, x.Sure) {
			t.Errorf("in another order: %v, want %v", y.Sent, x.Sent)
		}
	}
}

func TestConfirmOfAnyBytes(t *testing.T) { // R5
	r := rand.New(rand.NewSource(17))
	s := store.New()
	l := api.Ledger{From: "a", To: "b", Next: 9}
	for range 3000 {
		b := make([]byte, r.Intn(80))
		r.Read(b)
		if r.Intn(2) == 0 {
			b = seal(append(paper("a", "b")[:12], b...), "k")
			_, err := Confirm(l, s, []byte("k"), b)
			answers(t, fmt.Sprintf("% x", b), err, confirmError(l, b[:len(b)-32]))
			continue
		}
		x, err := Confirm(l, s, []byte("k"), b)
		tells(t, fmt.Sprintf("% x", b), x, err, x, api.ErrLedgerReceipt)
	}
}
