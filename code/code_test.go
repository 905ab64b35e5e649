package code

import (
	"bytes"
	"math"
	"math/rand"
	"runtime"
	"testing"

	"satchel/api"
)

// laid tells the bytes that a new Writer holds once fill has worked on it.
func laid(fill func(w *Writer)) []byte {
	w := New()
	fill(w)
	return w.Out()
}

func join(parts ...[]byte) []byte { return bytes.Join(parts, nil) }

func nine(b byte) []byte { return bytes.Repeat([]byte{b}, 9) }

func TestNewHoldsNothing(t *testing.T) { // P1.1
	w := New()
	if w.Len() != 0 || len(w.Out()) != 0 {
		t.Errorf("Len %d, Out %x", w.Len(), w.Out())
	}
}

func TestWritten(t *testing.T) { // P1.1
	for _, c := range []struct {
		name string
		fill func(w *Writer)
		want []byte
	}{
		{"fixed", func(w *Writer) { w.U32(1); w.U8(255); w.U64(258) }, []byte{0, 0, 0, 1, 0xff, 0, 0, 0, 0, 0, 0, 1, 2}},
		{"every byte of U32", func(w *Writer) { w.U32(0x01020304) }, []byte{1, 2, 3, 4}},
		{"every byte of U64", func(w *Writer) { w.U64(0x0102030405060708) }, []byte{1, 2, 3, 4, 5, 6, 7, 8}},
		{"greatest", func(w *Writer) { w.U8(math.MaxUint8); w.U32(math.MaxUint32); w.U64(math.MaxUint64) }, bytes.Repeat([]byte{0xff}, 13)},
		{"least", func(w *Writer) { w.U8(0); w.U32(0); w.U64(0) }, make([]byte, 13)},
		{"Vars", func(w *Writer) { w.Var(0); w.Var(127); w.Var(128); w.Var(300) }, []byte{0, 0x7f, 0x80, 1, 0xac, 2}},
		{"greatest Var", func(w *Writer) { w.Var(math.MaxUint64) }, join(nine(0xff), []byte{1})},
		{"Var of the highest bit", func(w *Writer) { w.Var(1 << 63) }, join(nine(0x80), []byte{1})},
		{"greatest Var of nine bytes", func(w *Writer) { w.Var(1<<63 - 1) }, join(nine(0xff)[:8], []byte{0x7f})},
		{"texts", func(w *Writer) { w.Bytes([]byte("ab")); w.Raw([]byte("cd")); w.Bytes([]byte("")) }, []byte{2, 'a', 'b', 'c', 'd', 0}},
		{"nil texts", func(w *Writer) { w.Bytes(nil); w.Raw(nil); w.Raw([]byte{}) }, []byte{0}},
		{"length of two bytes", func(w *Writer) { w.Bytes(make([]byte, 128)) }, join([]byte{0x80, 1}, make([]byte, 128))},
	} {
		w := New()
		c.fill(w)
		if !bytes.Equal(w.Out(), c.want) || w.Len() != len(c.want) {
			t.Errorf("%s: %x, Len %d, want %x", c.name, w.Out(), w.Len(), c.want)
		}
	}
}

func TestVarGrowsByGroups(t *testing.T) { // P1.1
	for size := 1; size <= 9; size++ {
		edge := uint64(1) << (7 * size)
		for n, want := range map[uint64]int{edge - 1: size, edge: size + 1, edge + 1: size + 1} {
			if got := len(laid(func(w *Writer) { w.Var(n) })); got != want {
				t.Errorf("Var(%d) takes %d bytes, want %d", n, got, want)
			}
		}
	}
}

func TestOutGoesOnHolding(t *testing.T) { // P1.1
	w := New()
	w.Raw([]byte("ab"))
	first := w.Out()
	w.Raw([]byte("cd"))
	if string(first) != "ab" || string(w.Out()) != "abcd" || string(w.Out()) != "abcd" || w.Len() != 4 {
		t.Errorf("%q, then %q, Len %d", first, w.Out(), w.Len())
	}
}

func TestReadBegins(t *testing.T) { // P1.2
	for _, b := range [][]byte{nil, {}, {7}, {7, 8, 9}} {
		r := Read(b)
		if r.At() != 0 || r.Left() != len(b) || r.Fault() != api.OK {
			t.Errorf("%x: At %d, Left %d, Fault %d", b, r.At(), r.Left(), r.Fault())
		}
	}
}

func TestReadKeepsACopy(t *testing.T) { // P1.2
	b := []byte{1, 2, 'a', 'b', 'c'}
	r := Read(b)
	clear(b)
	if r.U8() != 1 || string(r.Bytes(9)) != "ab" || string(r.Raw(1)) != "c" || r.End() != api.OK {
		t.Error("what is done to the bytes later is seen")
	}
}

// The calls of the tests below: each answers a number or a text.
func u8(r *Reader) (uint64, []byte)  { return uint64(r.U8()), nil }
func u32(r *Reader) (uint64, []byte) { return uint64(r.U32()), nil }
func u64(r *Reader) (uint64, []byte) { return r.U64(), nil }

func variable(most uint64) func(r *Reader) (uint64, []byte) {
	return func(r *Reader) (uint64, []byte) { return r.Var(most), nil }
}

func text(most int) func(r *Reader) (uint64, []byte) {
	return func(r *Reader) (uint64, []byte) { return 0, r.Bytes(most) }
}

func raw(n int) func(r *Reader) (uint64, []byte) {
	return func(r *Reader) (uint64, []byte) { return 0, r.Raw(n) }
}

func TestItemsThatAreThere(t *testing.T) { // P1.3
	for _, c := range []struct {
		name string
		b    []byte
		call func(r *Reader) (uint64, []byte)
		n    uint64
		text string
	}{
		{"U8", []byte{0xfe}, u8, 0xfe, ""},
		{"U32", []byte{1, 2, 3, 0xff}, u32, 0x010203ff, ""},
		{"U64", []byte{0xff, 2, 3, 4, 5, 6, 7, 8}, u64, 0xff02030405060708, ""},
		{"Var at its bound", []byte{0xac, 2}, variable(300), 300, ""},
		{"Var below its bound", []byte{0xac, 2}, variable(1000), 300, ""},
		{"Var 0 of bound 0", []byte{0}, variable(0), 0, ""},
		{"Var with a 0 amid", []byte{0x80, 0x80, 1}, variable(math.MaxUint64), 1 << 14, ""},
		{"greatest Var", join(nine(0xff), []byte{1}), variable(math.MaxUint64), math.MaxUint64, ""},
		{"Bytes at its bound", []byte{2, 'a', 'b'}, text(2), 0, "ab"},
		{"Bytes of the greatest bound", []byte{2, 'a', 'b'}, text(math.MaxInt), 0, "ab"},
		{"empty Bytes", []byte{0}, text(0), 0, ""},
		{"Bytes of a bound below 0", []byte{0}, text(-1), 0, ""},
		{"Bytes of the least bound", []byte{0}, text(math.MinInt), 0, ""},
		{"Raw", []byte("abc"), raw(3), 0, "abc"},
		{"Raw of nothing", nil, raw(0), 0, ""},
	} {
		for _, behind := range [][]byte{nil, {0x81}} {
			r := Read(join([]byte{5}, c.b, behind))
			r.U8()
			n, b := c.call(r)
			if n != c.n || string(b) != c.text || r.Fault() != api.OK {
				t.Errorf("%s: %d, %q, Fault %d", c.name, n, b, r.Fault())
			}
			if r.At() != 1+len(c.b) || r.Left() != len(behind) {
				t.Errorf("%s: At %d, Left %d", c.name, r.At(), r.Left())
			}
		}
	}
}

// broken: items that are not there, by the fault that comes first.
func broken() []struct {
	name string
	b    []byte
	call func(r *Reader) (uint64, []byte)
	want api.Errno
} {
	return []struct {
		name string
		b    []byte
		call func(r *Reader) (uint64, []byte)
		want api.Errno
	}{
		{"U8 of nothing", nil, u8, api.ErrCodeShort},
		{"U32 of nothing", nil, u32, api.ErrCodeShort},
		{"U32 of three", []byte{1, 2, 3}, u32, api.ErrCodeShort},
		{"U64 of seven", []byte{1, 2, 3, 4, 5, 6, 7}, u64, api.ErrCodeShort},
		{"Var of nothing", nil, variable(9), api.ErrCodeShort},
		{"Var cut", []byte{0x80}, variable(9), api.ErrCodeShort},
		{"Var cut, above its bound already", []byte{0xff, 0xff}, variable(9), api.ErrCodeShort},
		{"Var cut at nine", nine(0xff), variable(math.MaxUint64), api.ErrCodeShort},
		{"Var with a last 0", []byte{0x80, 0}, variable(9), api.ErrCodeForm},
		{"Var with a last 0, above its bound", []byte{0xff, 0}, variable(9), api.ErrCodeForm},
		{"Var with a third 0", []byte{0x81, 0x80, 0}, variable(math.MaxUint64), api.ErrCodeForm},
		{"Var with a tenth 0", join(nine(0x80), []byte{0}), variable(math.MaxUint64), api.ErrCodeForm},
		{"Var with a tenth 2", join(nine(0xff), []byte{2}), variable(math.MaxUint64), api.ErrCodeForm},
		{"Var with a tenth 2, above its bound", join(nine(0xff), []byte{2}), variable(0), api.ErrCodeForm},
		{"Var with a tenth 80", join(nine(0xff), []byte{0x80}), variable(math.MaxUint64), api.ErrCodeForm},
		{"Var with a tenth 81", join(nine(0xff), []byte{0x81, 0}), variable(math.MaxUint64), api.ErrCodeForm},
		{"Var of ten ff", join(nine(0xff), []byte{0xff}), variable(math.MaxUint64), api.ErrCodeForm},
		{"Var one above its bound", []byte{0xac, 2}, variable(299), api.ErrCodeMax},
		{"Var 1 of bound 0", []byte{1}, variable(0), api.ErrCodeMax},
		{"greatest Var, one above its bound", join(nine(0xff), []byte{1}), variable(math.MaxUint64 - 1), api.ErrCodeMax},
		{"Bytes of nothing", nil, text(9), api.ErrCodeShort},
		{"Bytes with its length cut", []byte{0x80}, text(9), api.ErrCodeShort},
		{"Bytes with its length too long", []byte{0x81, 0, 'a'}, text(9), api.ErrCodeForm},
		{"Bytes above its bound", []byte{2, 'a', 'b'}, text(1), api.ErrCodeMax},
		{"Bytes above its bound, and cut", []byte{2, 'a'}, text(1), api.ErrCodeMax},
		{"Bytes above a bound below 0", []byte{1, 'a'}, text(-1), api.ErrCodeMax},
		{"Bytes cut", []byte{3, 'a', 'b'}, text(9), api.ErrCodeShort},
		{"Bytes of a length without bytes", []byte{1}, text(9), api.ErrCodeShort},
		{"Bytes of the greatest int", join(nine(0xff)[:8], []byte{0x7f}), text(math.MaxInt), api.ErrCodeShort},
		{"Bytes of the greatest number", join(nine(0xff), []byte{1}), text(math.MaxInt), api.ErrCodeMax},
		{"Raw below 0", []byte{1}, raw(-1), api.ErrCodeArg},
		{"Raw below 0 of nothing", nil, raw(math.MinInt), api.ErrCodeArg},
		{"Raw of nothing", nil, raw(1), api.ErrCodeShort},
		{"Raw cut", []byte("ab"), raw(3), api.ErrCodeShort},
		{"Raw of the greatest int", []byte("ab"), raw(math.MaxInt), api.ErrCodeShort},
	}
}

func TestFaults(t *testing.T) { // P1.4, and P1.3 of the place
	for _, c := range broken() {
		r := Read(join([]byte{5}, c.b))
		r.U8()
		n, b := c.call(r)
		if n != 0 || len(b) != 0 || r.Fault() != c.want || r.End() != c.want {
			t.Errorf("%s: %d, %q, Fault %d, End %d, want %d", c.name, n, b, r.Fault(), r.End(), c.want)
		}
		if r.At() != 1 || r.Left() != len(c.b) {
			t.Errorf("%s: At %d, Left %d", c.name, r.At(), r.Left())
		}
	}
}

func TestBehindAFault(t *testing.T) { // P1.3
	behind := []func(r *Reader) (uint64, []byte){u8, u32, u64, variable(math.MaxUint64), text(99), raw(1), raw(0), raw(-1)}
	for _, c := range broken() {
		for i, call := range behind {
			r := Read(c.b)
			c.call(r)
			for range 2 {
				n, b := call(r)
				if n != 0 || len(b) != 0 || r.Fault() != c.want || r.End() != c.want || r.At() != 0 || r.Left() != len(c.b) {
					t.Errorf("%s, then call %d: %d, %q, Fault %d, At %d", c.name, i, n, b, r.Fault(), r.At())
				}
			}
		}
	}
	r := Read([]byte{0, 0, 7})
	if r.U32() != 0 || r.U8() != 0 || r.At() != 0 || r.Left() != 3 || r.End() != api.ErrCodeShort {
		t.Error("what is left behind a fault is read")
	}
}

func TestEnd(t *testing.T) { // P1.5
	r := Read([]byte{0, 3})
	if r.End() != api.ErrCodeLeft || r.Fault() != api.OK || r.At() != 0 || r.Left() != 2 {
		t.Errorf("with bytes left: End %d, Fault %d", r.End(), r.Fault())
	}
	if r.U8() != 0 || r.End() != api.ErrCodeLeft || r.At() != 1 || r.Left() != 1 {
		t.Error("ErrCodeLeft stops the Reader")
	}
	if r.U8() != 3 || r.End() != api.OK || r.Fault() != api.OK || r.At() != 2 || r.Left() != 0 {
		t.Errorf("at the end: End %d", r.End())
	}
	if r.U8(); r.End() != api.ErrCodeShort || r.Fault() != api.ErrCodeShort {
		t.Errorf("behind the end: End %d", r.End())
	}
	if e := Read(nil).End(); e != api.OK {
		t.Errorf("of nothing: End %d", e)
	}
}

// piece: an item with the call that writes and reads it.
type piece struct {
	kind int
	n    uint64
	text []byte
}

func drawn(rnd *rand.Rand) piece {
	p := piece{kind: rnd.Intn(6), n: rnd.Uint64() >> rnd.Intn(64), text: make([]byte, rnd.Intn(150))}
	rnd.Read(p.text)
	return p
}

func (p piece) write(w *Writer) {
	switch p.kind {
	case 0:
		w.U8(uint8(p.n))
	case 1:
		w.U32(uint32(p.n))
	case 2:
		w.U64(p.n)
	case 3:
		w.Var(p.n)
	case 4:
		w.Bytes(p.text)
	case 5:
		w.Raw(p.text)
	}
}

func (p piece) read(r *Reader) piece {
	got := piece{kind: p.kind}
	switch p.kind {
	case 0:
		got.n = uint64(r.U8())
	case 1:
		got.n = uint64(r.U32())
	case 2:
		got.n = r.U64()
	case 3:
		got.n = r.Var(p.n)
	case 4:
		got.text = r.Bytes(len(p.text))
	case 5:
		got.text = r.Raw(len(p.text))
	}
	return got
}

func TestWhatIsWrittenIsRead(t *testing.T) { // P1.6
	rnd := rand.New(rand.NewSource(1))
	for range 1000 {
		w := New()
		row := make([]piece, rnd.Intn(12))
		for i := range row {
			row[i] = drawn(rnd)
			row[i].write(w)
		}
		r := Read(w.Out())
		again := New()
		for i, p := range row {
			got := p.read(r)
			if r.Fault() != api.OK || !bytes.Equal(laid(got.write), laid(p.write)) {
				t.Fatalf("item %d of %v: %v, Fault %d", i, row, got, r.Fault())
			}
			got.write(again)
		}
		if r.End() != api.OK || !bytes.Equal(again.Out(), w.Out()) {
			t.Fatalf("End %d of %v", r.End(), row)
		}
	}
}

func TestOneWayToWrite(t *testing.T) { // P1.6: every byte string of up to three bytes
	for size := range 4 {
		for bits := range 1 << (8 * size) {
			b := []byte{byte(bits), byte(bits >> 8), byte(bits >> 16)}[:size]
			r := Read(b)
			n := r.Var(math.MaxUint64)
			if r.End() == api.OK && !bytes.Equal(laid(func(w *Writer) { w.Var(n) }), b) {
				t.Fatalf("%x is read as the Var %d, which is not written so", b, n)
			}
			r = Read(b)
			s := r.Bytes(math.MaxInt)
			if r.End() == api.OK && !bytes.Equal(laid(func(w *Writer) { w.Bytes(s) }), b) {
				t.Fatalf("%x is read as the Bytes %x, which are not written so", b, s)
			}
		}
	}
}

func TestAnybodysBytes(t *testing.T) { // P1.6, R1: rows of reads of bytes that nobody wrote
	rnd := rand.New(rand.NewSource(2))
	for range 20000 {
		b := make([]byte, rnd.Intn(24))
		for i := range b {
			b[i] = []byte{0, 1, 2, 3, 0x7f, 0x80, 0x81, 0xff}[rnd.Intn(8)]
		}
		r, w := Read(b), New()
		for r.Left() > 0 && r.Fault() == api.OK {
			p := drawn(rnd)
			p.n, p.text = math.MaxUint64, p.text[:min(len(p.text), 4)]
			got := p.read(r)
			if r.Fault() == api.OK {
				got.write(w)
			}
		}
		if !bytes.Equal(w.Out(), b[:r.At()]) || r.At()+r.Left() != len(b) {
			t.Fatalf("%x: read up to %d, written anew %x", b, r.At(), w.Out())
		}
	}
}

func TestAnswersAreNewMemory(t *testing.T) { // P1.7
	w := New()
	w.Raw([]byte("abc"))
	one, two := w.Out(), w.Out()
	spoil(one)
	if string(two) != "abc" || string(w.Out()) != "abc" {
		t.Errorf("Out shares memory: %q, %q", two, w.Out())
	}
	spoil(w.Out())
	w.U8('d')
	if string(w.Out()) != "abcd" {
		t.Errorf("Out shares its spare room: %q", w.Out())
	}
	r := Read([]byte{2, 'a', 'b', 'c', 'd', 'e', 1, 'f'})
	first := r.Bytes(9)
	spoil(first)
	second := r.Raw(2)
	spoil(second)
	if r.U8() != 'e' || string(r.Bytes(1)) != "f" || r.End() != api.OK {
		t.Error("Bytes or Raw share memory with the Reader")
	}
}

// spoil overwrites a list and the spare room behind its end.
func spoil(b []byte) {
	for i := range b[:cap(b)] {
		b[:cap(b)][i] = 'z'
	}
}

// roomy: a text in a list with spare room behind its end, and the whole of it.
func roomy(s string) (list, whole []byte) {
	whole = append([]byte(s), "spare room"...)
	return whole[:len(s)], whole
}

func TestWhatIsHandedInIsLeft(t *testing.T) { // P1.7, R2
	for name, lay := range map[string]func(w *Writer, b []byte){"Bytes": (*Writer).Bytes, "Raw": (*Writer).Raw} {
		b, whole := roomy("abc")
		w := New()
		lay(w, b)
		lay(w, b)
		want := w.Out()
		w.U64(math.MaxUint64)
		if string(whole) != "abcspare room" {
			t.Errorf("%s changes what is handed in: %q", name, whole)
		}
		clear(whole)
		if !bytes.Equal(w.Out()[:len(want)], want) {
			t.Errorf("%s keeps what is handed in: %q", name, w.Out())
		}
	}
	b, whole := roomy("\x02abcd")
	r := Read(b)
	spoil(r.Bytes(9))
	spoil(r.Raw(1))
	if string(whole) != "\x02abcdspare room" {
		t.Errorf("a Reader changes what is handed in: %q", whole)
	}
	if r.Left() != 1 || len(r.Raw(2)) != 0 || r.Fault() != api.ErrCodeShort {
		t.Error("a Reader reads the spare room")
	}
	b, whole = roomy("\x01")
	r = Read(b)
	spoil(whole)
	if r.U8() != 1 || r.End() != api.OK {
		t.Error("a Reader keeps what is handed in")
	}
}

func TestWritersAndReadersAreApart(t *testing.T) { // R2
	one, two := New(), New()
	one.U8(1)
	if two.Len() != 0 {
		t.Error("two Writers hold the same")
	}
	b := []byte{1, 2}
	first, second := Read(b), Read(b)
	if first.U32(); second.U8() != 1 || second.Fault() != api.OK || second.At() != 1 || first.At() != 0 {
		t.Error("two Readers have one place")
	}
}

func TestGreatLengthsTakeNoMemory(t *testing.T) { // R6
	const claimed = 1 << 30
	b := laid(func(w *Writer) { w.Var(claimed) })
	var before, behind runtime.MemStats
	runtime.ReadMemStats(&before)
	Read(b).Bytes(claimed)
	Read(b).Raw(claimed)
	runtime.ReadMemStats(&behind)
	if took := behind.TotalAlloc - before.TotalAlloc; took > 1<<20 {
		t.Errorf("%d bytes are taken for bytes that are not there", took)
	}
}
