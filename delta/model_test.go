package delta

import (
	"bytes"
	"math"
	"math/big"
	"math/rand"
	"testing"

	"satchel/api"
)

// number reads the Var at the front of some bytes, by the words of chapter 1 and without the package's means; behind: how many bytes it takes; 0: there is none.
func number(b []byte) (n *big.Int, behind int) {
	n = new(big.Int)
	for i, c := range b {
		n.Or(n, new(big.Int).Lsh(big.NewInt(int64(c&0x7f)), uint(7*i)))
		if c&0x80 != 0 {
			continue
		}
		if c == 0 && i > 0 || n.BitLen() > 64 {
			return nil, 0
		}
		return n, i + 1
	}
	return nil, 0
}

func above(n *big.Int, most int) bool { return n.Cmp(big.NewInt(int64(most))) > 0 }

// plain is Apply by the words of P7.1, one after the other; all its numbers are big.
func plain(base, d []byte) (string, api.Errno) {
	first, k := number(d)
	if k == 0 || above(first, api.MaxObject) {
		return "", api.ErrDeltaForm
	}
	if first.Cmp(big.NewInt(int64(len(base)))) != 0 {
		return "", api.ErrDeltaBase
	}
	d = d[k:]
	size, k := number(d)
	if k == 0 {
		return "", api.ErrDeltaForm
	}
	if above(size, api.MaxObject) {
		return "", api.ErrDeltaLong
	}
	d = d[k:]
	var target []byte
	for int64(len(target)) < size.Int64() {
		c, k := number(d)
		if k == 0 || !above(c, 1) {
			return "", api.ErrDeltaForm
		}
		d = d[k:]
		length := new(big.Int).Rsh(c, 1)
		if new(big.Int).Add(length, big.NewInt(int64(len(target)))).Cmp(size) > 0 {
			return "", api.ErrDeltaLong
		}
		n := int(length.Int64())
		if c.Bit(0) == 0 {
			if len(d) < n {
				return "", api.ErrDeltaForm
			}
			target = append(target, d[:n]...)
			d = d[n:]
			continue
		}
		place, k := number(d)
		if k == 0 {
			return "", api.ErrDeltaForm
		}
		if above(new(big.Int).Add(place, length), len(base)) {
			return "", api.ErrDeltaCopy
		}
		d = d[k:]
		at := int(place.Int64())
		target = append(target, base[at:at+n]...)
	}
	if len(d) > 0 {
		return "", api.ErrDeltaForm
	}
	return string(target), api.OK
}

// plainSize is Size by the words of P7.2.
func plainSize(d []byte) (base, target int, e api.Errno) {
	first, k := number(d)
	if k == 0 || above(first, api.MaxObject) {
		return 0, 0, api.ErrDeltaForm
	}
	second, k := number(d[k:])
	if k == 0 {
		return 0, 0, api.ErrDeltaForm
	}
	if above(second, api.MaxObject) {
		return 0, 0, api.ErrDeltaLong
	}
	return int(first.Int64()), int(second.Int64()), api.OK
}

// asPlain holds Apply and Size against the models, and tells Apply's number.
func asPlain(t *testing.T, base, d []byte) api.Errno {
	t.Helper()
	b, e := Apply(base, d)
	want, f := plain(base, d)
	if string(b) != want || e != f {
		t.Fatalf("Apply(%d bytes, %x) = %d bytes, %d, want %d bytes, %d", len(base), d, len(b), e, len(want), f)
	}
	n, m, g := Size(d)
	if wantN, wantM, f := plainSize(d); n != wantN || m != wantM || g != f {
		t.Fatalf("Size(%x) = %d, %d, %d, want %d, %d, %d", d, n, m, g, wantN, wantM, f)
	}
	return e
}

// drawnDelta: a delta that is right for a base of n bytes, or nearly so.
func drawnDelta(rnd *rand.Rand, n int) []byte {
	size := rnd.Intn(40)
	var commands []byte
	told := 0
	for told < size {
		length := 1 + rnd.Intn(size-told)
		if rnd.Intn(2) == 0 && length <= n {
			commands = append(commands, copying(uint64(length), uint64(rnd.Intn(n-length+1)))...)
		} else {
			commands = append(commands, adding(string(make([]byte, length)))...)
		}
		told += length
	}
	return join(vars(uint64(n), uint64(size)), commands)
}

// hurt changes a few bytes of a delta, or lays others in.
func hurt(rnd *rand.Rand, d []byte) []byte {
	d = bytes.Clone(d)
	for range rnd.Intn(3) {
		at := rnd.Intn(len(d) + 1)
		switch rnd.Intn(4) {
		case 0:
			d = d[:at]
		case 1:
			d = join(d[:at], vars(math.MaxUint64-uint64(rnd.Intn(3))), d[at:])
		case 2:
			d = join(d[:at], []byte{byte(rnd.Intn(256))}, d[at:])
		case 3:
			if at < len(d) {
				d[at] = byte(rnd.Intn(12))
			}
		}
	}
	return d
}

// count gathers how often each number was answered, so that a test knows that it met them all.
type count map[api.Errno]int

func (c count) met(t *testing.T, all ...api.Errno) {
	t.Helper()
	for _, e := range all {
		if c[e] < 20 {
			t.Errorf("%d is answered %d times: too seldom for a test", e, c[e])
		}
	}
}

func TestDrawnDeltas(t *testing.T) { // P7.1, P7.2
	rnd := rand.New(rand.NewSource(1))
	seen := count{}
	for range 30000 {
		base := make([]byte, rnd.Intn(20))
		rnd.Read(base)
		seen[asPlain(t, base, hurt(rnd, drawnDelta(rnd, len(base))))]++
	}
	seen.met(t, api.OK, api.ErrDeltaForm, api.ErrDeltaBase, api.ErrDeltaCopy, api.ErrDeltaLong)
}

func TestAnybodysBytes(t *testing.T) { // P7.1, P7.2, R1, R5: bytes that nobody wrote as a delta
	rnd := rand.New(rand.NewSource(2))
	seen := count{}
	for range 100000 {
		d := make([]byte, rnd.Intn(12))
		for i := range d {
			d[i] = []byte{0, 1, 2, 3, 4, 5, 6, 7, 0x7f, 0x80, 0x81, 0xff}[rnd.Intn(12)]
		}
		seen[asPlain(t, []byte("abcdefg")[:rnd.Intn(8)], d)]++
	}
	seen.met(t, api.OK, api.ErrDeltaForm, api.ErrDeltaBase, api.ErrDeltaCopy, api.ErrDeltaLong)
}

// isTelling leaves out the bytes that are like their neighbours.
func isTelling(b byte) bool { return b < 5 || b > 0x7d && b < 0x84 || b > 0xfd }

func TestEveryShortDelta(t *testing.T) { // P7.1, P7.2: all byte strings of up to two bytes, longer ones of few kinds of bytes
	for size := range 4 {
		for bits := range 1 << (8 * size) {
			d := []byte{byte(bits), byte(bits >> 8), byte(bits >> 16)}[:size]
			if size == 3 && (!isTelling(d[0]) || !isTelling(d[1])) {
				continue
			}
			asPlain(t, []byte("a"), d)
			asPlain(t, nil, d)
		}
	}
	kinds := []byte{0, 1, 2, 3, 4, 5, 6, 7, 0x80, 0x83, 0xff}
	for i := range len(kinds) * len(kinds) * len(kinds) * len(kinds) {
		k := len(kinds)
		d := []byte{3, 2, kinds[i%k], kinds[i/k%k], kinds[i/k/k%k], kinds[i/k/k/k]}
		for size := 2; size <= len(d); size++ {
			asPlain(t, []byte("abc"), d[:size])
		}
	}
}
