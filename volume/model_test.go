package volume

import (
	"bytes"
	"crypto/sha256"
	"encoding/binary"
	"math/rand"
	"slices"
	"testing"

	"satchel/api"
)

// plainTimes is the product by the words of 'The numbers behind it': multiplied as polynomials, then divided.
func plainTimes(a, b byte) byte {
	product := 0
	for k := range 8 {
		if b>>k&1 == 1 {
			product ^= int(a) << k
		}
	}
	for k := 14; k >= 8; k-- {
		if product>>k&1 == 1 {
			product ^= 0x11d << (k - 8)
		}
	}
	return byte(product)
}

// plainOver is a divided by b, found by trying.
func plainOver(a, b byte) byte {
	for q := range 256 {
		if plainTimes(byte(q), b) == a {
			return byte(q)
		}
	}
	panic("divided by 0")
}

// plainTables: the products and quotients, so that the model is not slow.
type plainTables struct {
	times, over [256][256]byte
}

func plainField() *plainTables {
	p := &plainTables{}
	for a := range 256 {
		for b := range 256 {
			p.times[a][b] = plainTimes(byte(a), byte(b))
		}
	}
	for b := 1; b < 256; b++ {
		for q := range 256 {
			p.over[p.times[q][b]][b] = byte(q)
		}
	}
	return p
}

var plain = plainField()

// plainCoefficients tells the polynomial of degree below n through n values, by the equations that they are: one is solved for its first unknown, which is put into the others.
func plainCoefficients(points, values []byte) []byte {
	n := len(points)
	rows := make([][]byte, n)
	for i, x := range points {
		power := byte(1)
		for range n {
			rows[i] = append(rows[i], power)
			power = plain.times[power][x]
		}
		rows[i] = append(rows[i], values[i])
	}
	for c := range n {
		for r := c; rows[c][c] == 0; r++ {
			rows[c], rows[r] = rows[r], rows[c]
		}
		lead := rows[c][c]
		for k := range rows[c] {
			rows[c][k] = plain.over[rows[c][k]][lead]
		}
		for r := range rows {
			if factor := rows[r][c]; r != c && factor != 0 {
				for k := range rows[r] {
					rows[r][k] ^= plain.times[factor][rows[c][k]]
				}
			}
		}
	}
	var out []byte
	for _, row := range rows {
		out = append(out, row[n])
	}
	return out
}

func plainValue(coefficients []byte, x byte) byte {
	sum, power := byte(0), byte(1)
	for _, c := range coefficients {
		sum ^= plain.times[c][power]
		power = plain.times[power][x]
	}
	return sum
}

// plainAt tells the pieces at the points from 0 up to an end.
func plainAt(points []byte, pieces [][]byte, end int) [][]byte {
	out := make([][]byte, end)
	for j := range pieces[0] {
		var values []byte
		for _, p := range pieces {
			values = append(values, p[j])
		}
		poly := plainCoefficients(points, values)
		for i := range out {
			out[i] = append(out[i], plainValue(poly, byte(i)))
		}
	}
	return out
}

func plainPiece(size uint64, n int) uint64 {
	k := size / uint64(n)
	if size%uint64(n) != 0 {
		k++
	}
	return k
}

// reseal lays a text's digest behind it.
func reseal(text []byte) []byte {
	sum := sha256.Sum256(text)
	return append(slices.Clone(text), sum[:]...)
}

// forged is a volume's text with any numbers and any piece, under a right digest.
func forged(n, m, i byte, size uint64, file [32]byte, piece []byte) []byte {
	text := append([]byte("VOLUME01"), n, m, i)
	text = binary.BigEndian.AppendUint64(text, size)
	text = append(text, file[:]...)
	text = binary.AppendUvarint(text, uint64(len(piece)))
	return reseal(append(text, piece...))
}

// plainSplit is P10.1 for numbers that may be.
func plainSplit(file []byte, n, m int) [][]byte {
	k := int(plainPiece(uint64(len(file)), n))
	var pieces [][]byte
	var points []byte
	for i := range n {
		piece := make([]byte, k)
		copy(piece, file[min(i*k, len(file)):])
		pieces = append(pieces, piece)
		points = append(points, byte(i))
	}
	var out [][]byte
	for i, piece := range plainAt(points, pieces, n+m) {
		out = append(out, forged(byte(n), byte(m), byte(i), uint64(len(file)), sha256.Sum256(file), piece))
	}
	return out
}

// plainVolume is what the model reads.
type plainVolume struct {
	n, m, index int
	size        uint64
	file        [32]byte
	piece       string
}

// plainRead is P10.2: what a text says, if there is a volume that says so and is just this text.
func plainRead(text []byte) (plainVolume, bool) {
	const front = 8 + 3 + 8 + 32
	if len(text) < front+1+32 {
		return plainVolume{}, false
	}
	v := plainVolume{n: int(text[8]), m: int(text[9]), index: int(text[10]), size: binary.BigEndian.Uint64(text[11:]), file: [32]byte(text[19:])}
	rest := text[front : len(text)-32]
	length, used := binary.Uvarint(rest)
	if used <= 0 || length != uint64(len(rest)-used) {
		return plainVolume{}, false
	}
	v.piece = string(rest[used:])
	if v.n < 1 || v.n+v.m > 64 || v.index >= v.n+v.m || v.size > 1<<21 || length != plainPiece(v.size, v.n) {
		return plainVolume{}, false
	}
	return v, bytes.Equal(text, forged(byte(v.n), byte(v.m), byte(v.index), v.size, v.file, []byte(v.piece)))
}

// headOf tells a volume without what is not of its head.
func (v plainVolume) headOf() plainVolume {
	v.index, v.piece = 0, ""
	return v
}

// plainJoin is P10.3, a head behind the other.
func plainJoin(texts [][]byte) (string, api.Errno) {
	var all []plainVolume
	for _, text := range texts {
		if v, ok := plainRead(text); ok {
			all = append(all, v)
		}
	}
	if len(all) == 0 {
		return "", api.ErrVolumeForm
	}
	e := api.ErrVolumeFew
	for i, first := range all {
		head := first.headOf()
		if slices.ContainsFunc(all[:i], func(v plainVolume) bool { return v.headOf() == head }) {
			continue
		}
		var points []byte
		var pieces [][]byte
		for index := range head.n + head.m {
			at := slices.IndexFunc(all, func(v plainVolume) bool { return v.headOf() == head && v.index == index })
			if at >= 0 && len(points) < head.n {
				points = append(points, byte(index))
				pieces = append(pieces, []byte(all[at].piece))
			}
		}
		if len(points) < head.n {
			continue
		}
		file := bytes.Join(plainAt(points, pieces, head.n), nil)[:head.size]
		if sha256.Sum256(file) == head.file {
			return string(file), api.OK
		}
		e = api.ErrVolumeSum
	}
	return "", e
}

// noise: drawn bytes.
func noise(seed int64, n int) []byte {
	b := make([]byte, n)
	rand.New(rand.NewSource(seed)).Read(b)
	return b
}

func TestModel(t *testing.T) { // the model itself: the chapter's numbers
	if p := plainTimes(2, 0x80); p != 0x1d {
		t.Errorf("2 * 80 is %x", p)
	}
	if q := plainOver(0x1d, 0x80); q != 2 {
		t.Errorf("1d / 80 is %x", q)
	}
	if v := plainValue(plainCoefficients([]byte{0, 1}, []byte{0x61, 0x62}), 2); v != 0x67 {
		t.Errorf("the line through 61 and 62 is %x at 2", v)
	}
}
