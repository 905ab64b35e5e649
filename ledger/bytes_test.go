package ledger

import (
	"bytes"
	"encoding/binary"
	"fmt"
	"math/rand"
	"slices"
	"testing"

	"satchel/api"
)

// parses looks whether some bytes are read as a ledger, and written the same again.
func parses(t *testing.T, what string, b []byte, want api.Ledger, n api.Errno) {
	t.Helper()
	l, err := Parse(b)
	tells(t, what, l, err, want, n)
	if n != api.OK {
		return
	}
	again, err := Encode(l)
	answers(t, what, err, api.OK)
	if !bytes.Equal(again, b) {
		t.Errorf("%s: % x, want % x", what, again, b)
	}
}

func TestBytes(t *testing.T) { // P16.10
	for _, right := range rights() {
		l := small()
		right.do(&l)
		b, err := Encode(l)
		answers(t, right.what, err, api.OK)
		if !bytes.Equal(b, lay(l)) {
			t.Errorf("%s: % x, want % x", right.what, b, lay(l))
		}
		parses(t, right.what, b, l, api.OK)
	}
	one, two := all(1), all(2)
	l := api.Ledger{From: "home", To: "away", Next: 300, Sent: []api.Sent{{Seq: 7, Tips: []api.ID{one, two}}, {Seq: 299}}, Sure: []api.ID{one}, Lean: []api.ID{two}, Refs: stamp("x", two, 200, "y", none, 1)}
	want := "LEDGER01\x04home\x04away\xac\x02\x02\x07\x02" + string(one[:]) + string(two[:]) + "\xab\x02\x00\x01" + string(one[:]) + "\x01" + string(two[:]) + "\x02\x01x" + string(two[:]) + "\xc8\x01\x01y" + string(make([]byte, 32)) + "\x01"
	if b, err := Encode(l); err != nil || string(b) != want {
		t.Errorf("%q, %v, want %q", b, err, want)
	}
}

func TestTheGreatestLedger(t *testing.T) { // P16.10: at most MaxNote bytes
	l := fullest()
	for i := range l.Refs { // names of the greatest length, all numbers of the greatest length
		if len(l.Refs[i].Name) != api.MaxName || l.Refs[i].Seq != api.MaxSeq {
			t.Fatal("this is not the greatest one")
		}
	}
	b, err := Encode(l)
	answers(t, "the greatest", err, api.OK)
	if len(b) > api.MaxNote || len(b) < api.MaxNote/2 {
		t.Errorf("%d bytes", len(b))
	}
	parses(t, "the greatest", b, l, api.OK)
	parses(t, "the greatest, a byte behind", append(b, 0), l, api.ErrLedgerForm)
	parses(t, "MaxNote bytes", append(b, make([]byte, api.MaxNote-len(b))...), l, api.ErrLedgerForm)
	parses(t, "one more", append(b, make([]byte, api.MaxNote+1-len(b))...), l, api.ErrLedgerForm)
}

// goodBytes tells the ledger that some bytes say, by the words of P16.10: they are read as they come, and laid again.
func goodBytes(b []byte) (api.Ledger, bool) {
	rest, good := bytes.CutPrefix(b, []byte("LEDGER01"))
	number := func() uint64 {
		n, size := binary.Uvarint(rest)
		rest = rest[max(size, 0):]
		return n
	}
	take := func(n uint64) []byte {
		if n > uint64(len(rest)) {
			good = false
			return make([]byte, 32)
		}
		taken := rest[:n]
		rest = rest[n:]
		return taken
	}
	ids := func() []api.ID {
		var list []api.ID
		for n := number(); n > 0 && good; n-- {
			list = append(list, api.ID(take(32)))
		}
		return list
	}
	l := api.Ledger{From: string(take(number())), To: string(take(number())), Next: number()}
	for n := number(); n > 0 && good; n-- {
		l.Sent = append(l.Sent, api.Sent{Seq: number(), Tips: ids()})
		good = good && len(rest) > 0
	}
	l.Sure, l.Lean = ids(), ids()
	for n := number(); n > 0 && good; n-- {
		l.Refs = append(l.Refs, api.Stamp{Name: string(take(number())), ID: api.ID(take(32)), Seq: number()})
	}
	return l, good && bytes.Equal(lay(l), b) && goodLedger(l)
}

// reads holds Parse of any bytes against the model.
func reads(t *testing.T, b []byte) bool {
	t.Helper()
	l, good := goodBytes(b)
	want := api.ErrLedgerForm
	if good {
		want = api.OK
	}
	parses(t, fmt.Sprintf("% x", b), b, l, want)
	return good
}

func TestBytesThatAreHurt(t *testing.T) { // P16.10: cut at each place, each byte changed to any other one, one behind, one put in, one taken out
	l := small()
	l.Sent, l.Refs = l.Sent[1:], l.Refs[1:]
	b := lay(l)
	goods := 0
	count := func(good bool) {
		if good {
			goods++
		}
	}
	for i := range b {
		parses(t, "cut", b[:i], l, api.ErrLedgerForm)
		count(reads(t, b[i:]))
		count(reads(t, slices.Delete(slices.Clone(b), i, i+1)))
		for n := range 256 {
			hurt := slices.Clone(b)
			hurt[i] = byte(n)
			count(reads(t, hurt))
			if n%16 < 3 {
				count(reads(t, slices.Insert(slices.Clone(b), i, byte(n))))
			}
		}
	}
	count(reads(t, append(slices.Clone(b), 0)))
	if goods < 10000 {
		t.Errorf("only %d of these are ledgers", goods)
	}
}

func TestCountsAndNumbersOfBytes(t *testing.T) { // P16.10: each count and each number changed, and told by a byte more
	l := small()
	b := lay(l)
	// Where the numbers stand is found by what changes if they change.
	at := map[string]int{"from": 8, "to": 13, "next": 18, "sent": 20, "a bundle": 21, "tips": 22, "sure": 8 + 5 + 5 + 2 + 1 + (1 + 1 + 64) + (1 + 1) + (2 + 1 + 32)}
	at["lean"] = at["sure"] + 65
	at["refs"] = at["lean"] + 65
	at["a name"] = at["refs"] + 1
	at["a stamp"] = at["a name"] + 2 + 32
	for what, i := range at {
		old, size := binary.Uvarint(b[i:])
		for _, n := range []uint64{0, 1, 2, 3, 4, 5, 63, 64, 65, 255, 256, 257, 298, 299, 300, 301, 512, 513, api.MaxSeq, api.MaxSeq + 1, api.MaxSeq + 2, 1 << 62, 1<<64 - 1} {
			hurt := slices.Concat(b[:i], binary.AppendUvarint(nil, n), b[i+size:])
			good := reads(t, hurt)
			if n == old && !good {
				t.Errorf("%s: this is the ledger itself", what)
			}
		}
		long := slices.Concat(b[:i+size-1], []byte{b[i+size-1] | 0x80, 0}, b[i+size:])
		parses(t, what+" told by a byte more", long, l, api.ErrLedgerForm)
	}
}

func TestParseOfAnyBytes(t *testing.T) { // R5
	r := rand.New(rand.NewSource(10))
	goods := 0
	for range 20000 {
		b := []byte("LEDGER01\x01a\x01b")[:12-r.Intn(2)*r.Intn(13)]
		for range r.Intn(9) {
			b = append(b, byte(r.Intn(7)/4))
		}
		if reads(t, b) {
			goods++
		}
	}
	if goods < 50 {
		t.Errorf("only %d of these are ledgers", goods)
	}
	parses(t, "nothing", nil, api.Ledger{}, api.ErrLedgerForm)
	parses(t, "a receipt", seal(paper("a", "b"), ""), api.Ledger{}, api.ErrLedgerForm)
	parses(t, "the mark alone", []byte("LEDGER01"), api.Ledger{}, api.ErrLedgerForm)
	parses(t, "another mark", bytes.Replace(lay(small()), []byte("01"), []byte("02"), 1), api.Ledger{}, api.ErrLedgerForm)
}
