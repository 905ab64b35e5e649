package press

import (
	"bytes"
	"math"
	"math/rand"
	"runtime"
	"slices"
	"strings"
	"testing"
	"time"

	"satchel/api"
	"satchel/code"
)

func join(parts ...[]byte) []byte { return slices.Concat(parts...) }

func head(method byte, n uint64) []byte {
	w := code.New()
	w.U8(method)
	w.Var(n)
	return w.Out()
}

func plain(text string) []byte { return join(head(0, uint64(len(text))), []byte(text)) }

// coded: a coded one of 295 code lengths and of bits.
func coded(n int, lengths []byte, bits string) []byte {
	table := make([]byte, 148)
	for i, length := range lengths {
		table[i/2] |= length << (4 - 4*(i%2))
	}
	return join(head(1, uint64(n)), table, packed(bits))
}

// packed makes bytes of bits; what stands between them to part them does not count.
func packed(bits string) []byte {
	bits = strings.NewReplacer(" ", "", "+", "", ".", "").Replace(bits)
	b := make([]byte, (len(bits)+7)/8)
	for i, bit := range bits {
		b[i/8] |= byte(bit-'0') << (7 - i%8)
	}
	return b
}

// bitsOf: the code length of each symbol that is used, and of each distance (from way on).
type bitsOf map[int]byte

const way = 277

func (u bitsOf) lengths() []byte {
	all := make([]byte, 295)
	for number, length := range u {
		all[number] = length
	}
	return all
}

func (u bitsOf) coded(n int, bits string) []byte { return coded(n, u.lengths(), bits) }

func noise(seed int64, n int) string {
	b := make([]byte, n)
	rand.New(rand.NewSource(seed)).Read(b)
	return string(b)
}

// gives and refused hold Unpress against what is asked.
func gives(t *testing.T, name string, b []byte, want string) {
	t.Helper()
	for _, most := range []int{len(want), len(want) + 1, api.MaxObject, math.MaxInt} {
		if got, e := Unpress(b, most); string(got) != want || e != api.OK {
			t.Errorf("%s, at most %d: %d bytes, %d, want %d bytes", name, most, len(got), e, len(want))
		}
	}
	for _, most := range []int{len(want) - 1, -1, math.MinInt} {
		if got, e := Unpress(b, most); len(got) != 0 || e != api.ErrPressLong {
			t.Errorf("%s, at most %d: %d bytes, %d", name, most, len(got), e)
		}
	}
}

func refused(t *testing.T, name string, b []byte, most int, want api.Errno) {
	t.Helper()
	if got, e := Unpress(b, most); len(got) != 0 || e != want {
		t.Errorf("%s, at most %d: %d bytes, %d, want %d", name, most, len(got), e, want)
	}
}

func TestPlain(t *testing.T) { // P8.1, P8.2
	gives(t, "no bytes", []byte{0, 0}, "")
	gives(t, "the example", []byte{0, 3, 'a', 'b', 'c'}, "abc")
	for _, n := range []int{1, 2, 127, 128, 16383, 16384, api.MaxObject - 1, api.MaxObject} {
		gives(t, "noise", plain(noise(1, n)), noise(1, n))
	}
	gives(t, "bytes that look pressed", plain("\x00\x03abc"), "\x00\x03abc")
}

func TestWhichErrorComesFirst(t *testing.T) { // P8.4, P8.5
	nines := bytes.Repeat([]byte{0xff}, 9)
	for _, c := range []struct {
		name string
		b    []byte
		most int
		want api.Errno
	}{
		{"nothing", nil, 100, api.ErrPressForm},
		{"nothing, and nothing may be", nil, -1, api.ErrPressForm},
		{"no length, plain", []byte{0}, 100, api.ErrPressForm},
		{"no length, coded", []byte{1}, 100, api.ErrPressForm},
		{"no length, and nothing may be", []byte{0}, -1, api.ErrPressForm},
		{"method 2", []byte{2, 0}, 100, api.ErrPressForm},
		{"method 255", []byte{255, 0}, 100, api.ErrPressForm},
		{"method 2, too long", []byte{2, 0xff, 0xff, 0x7f}, 0, api.ErrPressForm},
		{"method 2, no length", []byte{2}, 0, api.ErrPressForm},
		{"a length that is cut", []byte{0, 0x83}, 100, api.ErrPressForm},
		{"a length that is cut, and nothing may be", []byte{0, 0xff, 0xff}, -1, api.ErrPressForm},
		{"a length that is not the shortest", []byte{0, 0x83, 0, 'a', 'b', 'c'}, 100, api.ErrPressForm},
		{"a 0 that is not the shortest", []byte{0, 0x80, 0}, 100, api.ErrPressForm},
		{"a long length that is not the shortest", join([]byte{1}, nines, []byte{0}), 100, api.ErrPressForm},
		{"a length above 64 bits", join([]byte{0}, nines, []byte{2}), 100, api.ErrPressForm},
		{"a length of eleven bytes", join([]byte{0}, nines, []byte{0x81, 1}), 100, api.ErrPressForm},
		{"the greatest length", head(0, math.MaxUint64), math.MaxInt, api.ErrPressLong},
		{"the greatest length, coded", head(1, math.MaxUint64), math.MaxInt, api.ErrPressLong},
		{"a length of 2^63", head(0, 1<<63), math.MaxInt, api.ErrPressLong},
		{"a length of 2^63 - 1", head(0, 1<<63-1), math.MaxInt, api.ErrPressLong},
		{"a length that is 3 but for bit 32", join(head(0, 1<<32+3), []byte("abc")), math.MaxInt, api.ErrPressLong},
		{"MaxObject and one", plain(noise(1, api.MaxObject+1)), math.MaxInt, api.ErrPressLong},
		{"MaxObject and one, coded", head(1, api.MaxObject+1), api.MaxObject + 1, api.ErrPressLong},
		{"101 bytes of 100", plain(noise(1, 101)), 100, api.ErrPressLong},
		{"101 bytes of 100 that are not there", []byte{0, 101}, 100, api.ErrPressLong},
		{"coded, too long, and nothing more", []byte{1, 0xff, 0xff, 0x7f}, 100, api.ErrPressLong},
		{"no bytes of -1", []byte{0, 0}, -1, api.ErrPressLong},
		{"no bytes of the least bound", []byte{0, 0}, math.MinInt, api.ErrPressLong},
		{"no bytes of -1, and one behind", []byte{0, 0, 7}, -1, api.ErrPressLong},
		{"no bytes of -1, coded", []byte{1, 0}, -1, api.ErrPressLong},
		{"one byte of 0", plain("a"), 0, api.ErrPressLong},
		{"too few", []byte{0, 3, 'a', 'b'}, 100, api.ErrPressForm},
		{"too many", []byte{0, 3, 'a', 'b', 'c', 'd'}, 100, api.ErrPressForm},
		{"none, and one behind", []byte{0, 0, 0}, 100, api.ErrPressForm},
		{"MaxObject that are not there", head(0, api.MaxObject), api.MaxObject, api.ErrPressForm},
		{"coded, MaxObject that are not there", head(1, api.MaxObject), api.MaxObject, api.ErrPressForm},
		{"coded, no bytes", []byte{1, 0}, 100, api.ErrPressForm},
		{"coded, no bytes, code lengths of 0", join([]byte{1, 0}, make([]byte, 148)), 100, api.ErrPressForm},
		{"coded, no bytes, right code lengths", bitsOf{'a': 1}.coded(0, ""), 100, api.ErrPressForm},
		{"coded, no bytes, right code lengths and a byte", bitsOf{'a': 1}.coded(0, "0"), 100, api.ErrPressForm},
		{"coded, no code lengths", []byte{1, 1}, 100, api.ErrPressForm},
		{"coded, 147 bytes of code lengths", bitsOf{'a': 1}.coded(1, "")[:149], 100, api.ErrPressForm},
	} {
		refused(t, c.name, c.b, c.most, c.want)
	}
}

func TestExampleOfCodes(t *testing.T) { // P8.3, P8.4
	u := bitsOf{'a': 1, 258: 1, way: 1}
	gives(t, "a copy", u.coded(6, "01000000"), "aaaaaa")
	gives(t, "no copy", u.coded(6, "00000000"), "aaaaaa")
	for name, b := range map[string][]byte{
		"a 1 behind":              u.coded(6, "01000001"),
		"a distance's bit 1":      u.coded(6, "01100000"),
		"one more byte":           u.coded(6, "01000000 00000000"),
		"a copy that is too long": u.coded(5, "01000000"),
		"no bits":                 u.coded(6, ""),
	} {
		refused(t, name, b, 100, api.ErrPressForm)
	}
}

func TestRowsThatMayBe(t *testing.T) { // P8.3
	gives(t, "one symbol", bitsOf{'x': 1}.coded(3, "000"), "xxx")
	gives(t, "the first symbol", bitsOf{0: 1}.coded(1, "0"), "\x00")
	gives(t, "two of one bit, the lesser first", bitsOf{'b': 1, 'a': 1}.coded(3, "010"), "aba")
	gives(t, "the shorter first, whatever their numbers", bitsOf{'a': 2, 'b': 2, 'c': 1}.coded(4, "10 0 11 0"), "acbc")
	gives(t, "a gap between the lengths", bitsOf{'a': 1, 'b': 3, 'c': 3, 'd': 3, 'e': 3}.coded(5, "0 100 101 110 111"), "abcde")
	gives(t, "one distance, not read", bitsOf{'a': 1, way + 17: 1}.coded(1, "0"), "a")
	gives(t, "a whole row of distances, not read", bitsOf{'a': 1, way + 3: 1, way + 5: 2, way + 7: 2}.coded(1, "0"), "a")
	gives(t, "no distance, a copy that is not read", bitsOf{'a': 1, 256: 1}.coded(4, "0000"), "aaaa")
	bytes := bitsOf{}
	for s := range 256 {
		bytes[s] = 8
	}
	all := noise(1, 1000)
	gives(t, "codes of eight bits are the bytes", join(bytes.coded(1000, ""), []byte(all)), all)
}

// comb: codes of 1, 2 .. 14, 15 and 15 bits from a number on.
func comb(first int) bitsOf {
	u := bitsOf{first + 15: 15}
	for i := range 15 {
		u[first+i] = byte(i + 1)
	}
	return u
}

func TestLongestCodes(t *testing.T) { // P8.3
	u := comb('a')
	for i := range 16 {
		bits := strings.Repeat("1", min(i, 15)) + "0"[min(i/15, 1):]
		gives(t, "a code of up to 15 bits", u.coded(1, bits), string(rune('a'+i)))
	}
	for i := range 16 {
		bits := strings.Repeat("1", min(i, 15)) + "0"[min(i/15, 1):]
		if i >= 4 {
			bits += digits(0, i-2)
		}
		d := comb(way)
		d['a'], d['b'], d[256] = 2, 2, 1
		back := 1 + i
		if i >= 4 {
			back = 1 + 1<<(i-2)
		}
		text := strings.Repeat("ab", back)[:back]
		lead := strings.NewReplacer("a", "10", "b", "11").Replace(text)
		want := text
		for range 3 {
			want += want[len(want)-back:][:1]
		}
		gives(t, "a distance's code of up to 15 bits", d.coded(back+3, lead+"0"+bits), want)
	}
}

// lengthsOf: the copy lengths that a symbol may tell, by the words of P8.3.
func lengthsOf(k int) (least, most, width int) {
	if k < 8 {
		return 3 + k, 3 + k, 0
	}
	return 3 + 1<<(k-5), 3 + 2<<(k-5) - 1, k - 5
}

func waysOf(d int) (least, most, width int) {
	if d < 4 {
		return 1 + d, 1 + d, 0
	}
	return 1 + 1<<(d-2), 1 + 2<<(d-2) - 1, d - 2
}

func TestEveryLengthOfACopy(t *testing.T) { // P8.3, P8.4: the shortest and the longest of each symbol; a copy reads what it tells
	next := 3
	for k := range 21 {
		least, most, width := lengthsOf(k)
		if least != next {
			t.Fatalf("the test leaves out %d to %d", next, least-1)
		}
		next = most + 1
		for _, length := range []int{least, (least + most) / 2, min(most, api.MaxObject-1)} {
			bits := "0 1" + digits(length-least, width) + "0"
			u := bitsOf{'a': 1, 256 + k: 1, way: 1}
			gives(t, "a copy", u.coded(length+1, bits), strings.Repeat("a", length+1))
			refused(t, "a copy too long by one", u.coded(length, bits), api.MaxObject, api.ErrPressForm)
			if length+2 <= api.MaxObject {
				gives(t, "a copy and a byte", u.coded(length+2, bits+"0"), strings.Repeat("a", length+2))
				refused(t, "a copy too short by eight", u.coded(min(length+9, api.MaxObject), bits), api.MaxObject, api.ErrPressForm)
			}
		}
	}
	for x := 65536 - 32771; x < 1<<15; x++ {
		refused(t, "the longest copies", bitsOf{'a': 1, 276: 1, way: 1}.coded(api.MaxObject, "0 1"+digits(x, 15)+"0"), api.MaxObject, api.ErrPressForm)
	}
}

func TestEveryWayBack(t *testing.T) { // P8.3, P8.4: the nearest and the farthest of each distance
	bytes := bitsOf{256: 1}
	for s := range 256 {
		bytes[s] = 9 // a 1 and the byte
	}
	all := noise(2, api.MaxObject)
	var lead strings.Builder
	for _, b := range []byte(all) {
		lead.WriteString("1" + digits(int(b), 8))
	}
	next := 1
	for d := range 18 {
		least, most, width := waysOf(d)
		if least != next {
			t.Fatalf("the test leaves out %d to %d", next, least-1)
		}
		next = most + 1
		bytes[way+d] = 1
		for _, back := range []int{least, (least + most) / 2, min(most, api.MaxObject-3)} {
			bits := "0 0" + digits(back-least, width)
			for _, ahead := range []int{0, 1, 100} {
				told := back + ahead
				if told+3 > api.MaxObject {
					continue
				}
				want := all[:told]
				for range 3 {
					want += want[len(want)-back:][:1]
				}
				gives(t, "a copy from behind", bytes.coded(told+3, lead.String()[:9*told]+bits), want)
			}
			refused(t, "a way back before the beginning", bytes.coded(back+2, lead.String()[:9*(back-1)]+bits), api.MaxObject, api.ErrPressForm)
		}
		delete(bytes, way+d)
	}
}

func TestCopiesOfCopies(t *testing.T) { // P8.3
	u := bitsOf{'a': 2, 'b': 2, 256: 2, 259: 2, way: 1, way + 1: 2, way + 4: 2}
	gives(t, "copies of what copies told", u.coded(20, "00 01 10+10 11+0 10+11.11 11+0"), "ab"+"aba"+"aaaaaa"+"baa"+"aaaaaa")
}

func TestRowsThatMayNotBe(t *testing.T) { // P8.4
	everywhere := func(length byte) []byte { return bytes.Repeat([]byte{length}, 277) }
	for name, all := range map[string][]byte{
		"no symbol":                          bitsOf{}.lengths(),
		"no symbol, but a distance":          bitsOf{way: 1}.lengths(),
		"one symbol of two bits":             bitsOf{'x': 2}.lengths(),
		"one symbol of 15 bits":              bitsOf{'x': 15}.lengths(),
		"half a row":                         bitsOf{'x': 2, 'y': 2}.lengths(),
		"a code is missing":                  bitsOf{'x': 1, 'y': 2}.lengths(),
		"the last of 15 bits is missing":     bitsOf{'x': 1, 'y': 2, 'z': 3, 0: 4, 1: 5, 2: 6, 3: 7, 4: 8, 5: 9, 6: 10, 7: 11, 8: 12, 9: 13, 10: 14, 11: 15}.lengths(),
		"three of one bit":                   bitsOf{'x': 1, 'y': 1, 'z': 1}.lengths(),
		"a whole row and one of 15 bits":     bitsOf{'x': 1, 'y': 1, 'z': 15}.lengths(),
		"all of one bit":                     everywhere(1),
		"all of eight bits":                  everywhere(8),
		"all of nine bits":                   everywhere(9),
		"all of 15 bits":                     everywhere(15),
		"one distance of two bits":           bitsOf{'x': 1, way: 2}.lengths(),
		"one distance of 15 bits":            bitsOf{'x': 1, way + 17: 15}.lengths(),
		"distances that are not whole":       bitsOf{'x': 1, way: 1, way + 1: 2}.lengths(),
		"distances that are more than whole": bitsOf{'x': 1, way: 1, way + 1: 1, way + 2: 1}.lengths(),
		"distances: all of one bit":          append(bitsOf{'x': 1}.lengths()[:277], bytes.Repeat([]byte{1}, 18)...),
		"the symbols lean on the distances":  bitsOf{'x': 1, 'y': 2, way: 2}.lengths(),
		"the distances lean on the symbols":  bitsOf{'x': 1, 'y': 1, 276: 1, way: 2}.lengths(),
		"a length in the last half":          append(bitsOf{'x': 1}.lengths(), 1),
		"another length in the last half":    append(bitsOf{'x': 1}.lengths(), 8),
		"a distance that has the last half":  append(bitsOf{'x': 1, way: 1}.lengths(), 1),
	} {
		for _, bits := range []string{"0", "00000000 00000000", "1", ""} {
			refused(t, name, coded(1, all, bits), 100, api.ErrPressForm)
		}
	}
}

func TestCodesThatMayNotBe(t *testing.T) { // P8.4
	one, three, copies := bitsOf{'x': 1}, bitsOf{'a': 1, 'b': 2, 'c': 2}, bitsOf{'a': 1, 264: 1, way + 4: 1}
	for name, b := range map[string][]byte{
		"a 1 with one used one":                   one.coded(3, "010"),
		"a 1 with one used one, first":            one.coded(1, "1"),
		"a 1 with one used distance":              bitsOf{'a': 1, 256: 1, way: 1}.coded(4, "0 1 1"),
		"no bits":                                 one.coded(1, ""),
		"bits for eight of nine":                  one.coded(9, "00000000"),
		"a code that is cut":                      three.coded(5, "0 10 11 10 1"),
		"a 1 behind":                              three.coded(1, "00000001"),
		"a 1 just behind":                         three.coded(1, "01"),
		"a byte behind":                           three.coded(1, "00000000 00000000"),
		"a byte behind a byte that is full":       three.coded(8, "00000000 00000000"),
		"a byte with a 1 behind one that is full": three.coded(8, "00000000 00000001"),
		"a copy where no distance is used":        bitsOf{'a': 1, 257: 1}.coded(5, "0 1 0"),
		"a copy first":                            bitsOf{'a': 1, 256: 1, way: 1}.coded(3, "1 0"),
		"a way back above what is told":           bitsOf{'a': 1, 256: 1, way + 1: 1}.coded(4, "0 1 0"),
		"a copy that tells one too much":          copies.coded(20, "0000000000 1 000 0 00"),
		"a copy behind the last byte":             bitsOf{'a': 1, 256: 1, way: 1}.coded(1, "0 1 0"),
	} {
		refused(t, name, b, 100, api.ErrPressForm)
	}
	gives(t, "the same copy, right", copies.coded(21, "0000000000 1 000 0 00"), strings.Repeat("a", 21))
	gives(t, "a byte that is full", three.coded(8, "00000000"), "aaaaaaaa")
}

func TestBitsThatEndTooEarly(t *testing.T) { // P8.4: whatever the length says
	for name, b := range map[string][]byte{
		"of a length":                 bitsOf{'a': 1, 264: 1, way: 1}.coded(0, "00000 1+00"),
		"of the longest length":       bitsOf{'a': 1, 276: 1, way: 1}.coded(0, "0 1+00000000000000"),
		"no distance":                 bitsOf{'a': 1, 264: 1, way: 1}.coded(0, "0000 1+000"),
		"of a distance's code":        bitsOf{'a': 1, 264: 1, way: 1, way + 1: 2, way + 2: 2}.coded(0, "000 1+000+1"),
		"of a way back":               bitsOf{'a': 1, 256: 1, way + 4: 1}.coded(0, "0000000000000 1+0.0"),
		"of the farthest way back":    bitsOf{'a': 1, 256: 1, way + 17: 1}.coded(0, "00000000 1+0.00000000000000"),
		"of a length and a way back":  bitsOf{'a': 1, 264: 1, way + 4: 1}.coded(0, "00000 1+00"),
		"of a length, a distance's 0": bitsOf{'a': 1, 265: 1, way: 1}.coded(0, "000 1+0000"),
	} {
		for n := byte(1); n < 100; n++ {
			b[1] = n
			refused(t, name, b, 100, api.ErrPressForm)
		}
	}
}

func TestCutTurnedLengthened(t *testing.T) { // P8.4, P8.5: at every place
	long, _ := Press([]byte(strings.Repeat("the quick brown fox ", 40) + "jumps over the lazy dog"))
	for _, b := range [][]byte{plain(""), plain("abc"), plain(noise(1, 200)), bitsOf{'a': 1, 258: 1, way: 1}.coded(6, "010"), bitsOf{'a': 1}.coded(8, "00000000"), long} {
		if _, e := Unpress(b, 10000); e != api.OK {
			t.Fatalf("%x: %d", b, e)
		}
		for cut := range b {
			refused(t, "cut", b[:cut], 10000, api.ErrPressForm)
		}
		for _, more := range [][]byte{{0}, {1}, {0x80}, make([]byte, 1000), b} {
			refused(t, "lengthened", join(b, more), 10000, api.ErrPressForm)
		}
		for bit := range 8 * len(b) {
			c := bytes.Clone(b)
			c[bit/8] ^= 0x80 >> (bit % 8)
			asModel(t, c, 10000)
		}
	}
}

// spoil overwrites a list and the spare room behind its end.
func spoil(b []byte) {
	for i := range b[:cap(b)] {
		b[:cap(b)][i] = 'z'
	}
}

// roomy: a text in a list with spare room behind its end, and the whole of it.
func roomy(s string) (list, whole []byte) {
	whole = append([]byte(s), "spare room"...)
	return whole[:len(s)], whole
}

func TestMemory(t *testing.T) { // P8.7, R2
	unpress := func(b []byte) ([]byte, api.Errno) { return Unpress(b, 1000) }
	pressed, _ := Press([]byte(strings.Repeat("abcd", 100)))
	for _, c := range []struct {
		name string
		call func(b []byte) ([]byte, api.Errno)
		in   string
	}{
		{"Press of few bytes", Press, "abc"},
		{"Press of none", Press, ""},
		{"Press of many", Press, strings.Repeat("abcd", 100)},
		{"Press of noise", Press, noise(1, 500)},
		{"Unpress of a plain one", unpress, string(plain("abc"))},
		{"Unpress of a coded one", unpress, string(pressed)},
		{"Unpress of a plain one that is cut", unpress, string(plain("abc")[:4])},
		{"Unpress of a coded one that is cut", unpress, string(pressed[:len(pressed)-1])},
		{"Unpress of a head that is cut", unpress, "\x00"},
	} {
		want, f := c.call([]byte(c.in))
		want = bytes.Clone(want)
		in, whole := roomy(c.in)
		one, e := c.call(in)
		two, _ := c.call(in)
		if e != f || !bytes.Equal(one, want) || !bytes.Equal(two, want) {
			t.Errorf("%s hangs on the spare room: %x, %x", c.name, one, two)
		}
		spoil(one)
		if !bytes.Equal(two, want) {
			t.Errorf("%s: two answers share memory", c.name)
		}
		if string(whole) != c.in+"spare room" {
			t.Errorf("%s changes what is handed in, or shares it: %q", c.name, whole)
		}
		spoil(whole)
		if !bytes.Equal(two, want) {
			t.Errorf("%s keeps what is handed in", c.name)
		}
	}
}

// taken tells how many bytes of memory a call takes.
func taken(call func()) uint64 {
	var before, behind runtime.MemStats
	runtime.ReadMemStats(&before)
	call()
	runtime.ReadMemStats(&behind)
	return behind.TotalAlloc - before.TotalAlloc
}

func TestMemoryByTheLengthAlone(t *testing.T) { // P8.5, R6: not by a length that may not be, nor by the bytes handed in
	u := bitsOf{'a': 1, 276: 1, way: 1}
	great := make([]byte, 1<<24)
	for name, b := range map[string][]byte{
		"the greatest length":                     head(1, math.MaxUint64),
		"2^40, plain":                             head(0, 1<<40),
		"2^40, coded":                             head(1, 1<<40),
		"no bytes, many behind":                   join(plain(""), great),
		"few bytes, many behind":                  join(plain("abc"), great),
		"few bytes by codes, many behind":         join(u.coded(1, "0"), great),
		"a long copy where few bytes are missing": u.coded(5, "0 1"+digits(32767, 15)+"0"),
		"no method, many bytes":                   join([]byte{9}, great),
		"a length that is cut":                    bytes.Repeat([]byte{0xff}, 1<<24),
	} {
		if took := taken(func() { Unpress(b, math.MaxInt) }); took > 1<<17 {
			t.Errorf("%s: %d bytes of memory", name, took)
		}
	}
}

func TestTimeByTheBytes(t *testing.T) { // P8.7: a time beyond their order would be minutes
	begin := time.Now()
	u := bitsOf{'a': 1, 276: 1, way: 1, way + 1: 1}
	long := u.coded(api.MaxObject, "0 1"+digits(32764, 15)+"0")
	bytes := bitsOf{'a': 1}.coded(api.MaxObject, strings.Repeat("0", api.MaxObject))
	deep := comb('a').coded(api.MaxObject, strings.Repeat("1", 15*api.MaxObject))
	for range 20 {
		for _, b := range [][]byte{long, bytes, deep} {
			if got, e := Unpress(b, api.MaxObject); len(got) != api.MaxObject || e != api.OK {
				t.Fatalf("%d bytes, %d", len(got), e)
			}
		}
	}
	if took := time.Since(begin); took > 20*time.Second {
		t.Errorf("it takes %v", took)
	}
}
