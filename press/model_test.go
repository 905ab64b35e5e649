package press

import (
	"bytes"
	"fmt"
	"math/big"
	"math/rand"
	"slices"
	"strings"
	"testing"

	"satchel/api"
)

// number reads the Var at the front of some bytes, by the words of chapter 1 and without the package's means; behind: how many bytes it takes; 0: there is none.
func number(b []byte) (n *big.Int, behind int) {
	n = new(big.Int)
	for i, c := range b {
		n.Or(n, new(big.Int).Lsh(big.NewInt(int64(c&0x7f)), uint(7*i)))
		if c&0x80 != 0 {
			continue
		}
		if c == 0 && i > 0 || n.BitLen() > 64 {
			return nil, 0
		}
		return n, i + 1
	}
	return nil, 0
}

func above(n *big.Int, most int) bool { return n.Cmp(big.NewInt(int64(most))) > 0 }

// digits writes a number in so many binary digits.
func digits(x, width int) string {
	if width == 0 {
		return ""
	}
	return fmt.Sprintf("%0*b", width, x)
}

// plainCodes tells the codes of a row by the words of P8.3, as texts of 0 and 1; ok: the row may be (as one of the symbols).
func plainCodes(lengths []byte) (codes map[int]string, ok bool) {
	var line []int
	sum := 0
	for number, length := range lengths {
		if length > 0 {
			line = append(line, number)
			sum += 1 << (15 - length)
		}
	}
	if sum != 1<<15 && !(len(line) == 1 && lengths[line[0]] == 1) {
		return nil, false
	}
	slices.SortStableFunc(line, func(a, b int) int { return int(lengths[a]) - int(lengths[b]) })
	codes = map[int]string{}
	code := 0
	for i, number := range line {
		if i > 0 {
			code = (code + 1) << (lengths[number] - lengths[line[i-1]])
		}
		codes[number] = digits(code, int(lengths[number]))
	}
	return codes, true
}

// plainBits is bits as a text, and what is read of it.
type plainBits struct {
	text string
	at   int
}

func (p *plainBits) take(width int) (x int, ok bool) {
	if len(p.text)-p.at < width {
		return 0, false
	}
	for _, c := range p.text[p.at : p.at+width] {
		x = 2*x + int(c-'0')
	}
	p.at += width
	return x, true
}

func (p *plainBits) code(codes map[string]int) (int, bool) {
	for width := 1; width <= 15 && p.at+width <= len(p.text); width++ {
		if number, ok := codes[p.text[p.at:p.at+width]]; ok {
			p.at += width
			return number, true
		}
	}
	return 0, false
}

func turned(codes map[int]string) map[string]int {
	byCode := map[string]int{}
	for number, code := range codes {
		byCode[code] = number
	}
	return byCode
}

// model is Unpress by the words of P8.1 to P8.5, one after the other.
func model(b []byte, most int) (string, api.Errno) {
	if len(b) == 0 || b[0] > 1 {
		return "", api.ErrPressForm
	}
	size, k := number(b[1:])
	if k == 0 {
		return "", api.ErrPressForm
	}
	if above(size, most) || above(size, api.MaxObject) {
		return "", api.ErrPressLong
	}
	n, body := int(size.Int64()), b[1+k:]
	if b[0] == 0 && len(body) == n {
		return string(body), api.OK
	}
	if b[0] == 0 || n == 0 || len(body) < 148 || body[147]&15 != 0 {
		return "", api.ErrPressForm
	}
	var all []byte
	for _, c := range body[:148] {
		all = append(all, c>>4, c&15)
	}
	symbols, ok := plainCodes(all[:277])
	if !ok {
		return "", api.ErrPressForm
	}
	distances, ok := plainCodes(all[277:295])
	if !ok && slices.Max(all[277:295]) > 0 {
		return "", api.ErrPressForm
	}
	told, ok := modelCodes(turned(symbols), turned(distances), body[148:], n)
	if !ok {
		return "", api.ErrPressForm
	}
	return told, api.OK
}

func modelCodes(symbols, distances map[string]int, body []byte, n int) (string, bool) {
	var text strings.Builder
	for _, c := range body {
		fmt.Fprintf(&text, "%08b", c)
	}
	bits := &plainBits{text: text.String()}
	var told []byte
	for len(told) < n {
		s, ok := bits.code(symbols)
		if !ok {
			return "", false
		}
		if s < 256 {
			told = append(told, byte(s))
			continue
		}
		length, k := 0, s-256
		if k < 8 {
			length = 3 + k
		} else {
			x, ok := bits.take(k - 5)
			if !ok {
				return "", false
			}
			length = 3 + 1<<(k-5) + x
		}
		d, ok := bits.code(distances)
		if !ok {
			return "", false
		}
		way := 1 + d
		if d >= 4 {
			x, ok := bits.take(d - 2)
			if !ok {
				return "", false
			}
			way = 1 + 1<<(d-2) + x
		}
		if way > len(told) || length > n-len(told) {
			return "", false
		}
		for range length {
			told = append(told, told[len(told)-way])
		}
	}
	rest := bits.text[bits.at:]
	return string(told), len(rest) < 8 && strings.Trim(rest, "0") == ""
}

// asModel holds Unpress against the model, and tells its number.
func asModel(t *testing.T, b []byte, most int) api.Errno {
	t.Helper()
	got, e := Unpress(b, most)
	want, f := model(b, most)
	if string(got) != want || e != f {
		t.Fatalf("Unpress(%x, %d) = %d bytes, %d, want %d bytes, %d", b, most, len(got), e, len(want), f)
	}
	return e
}

// drawnRow gives the numbers code lengths that make a whole row (of one: 1), some of them very long.
func drawnRow(rnd *rand.Rand, size int, numbers []int) []byte {
	row := make([]byte, size)
	if len(numbers) == 0 {
		return row
	}
	if len(numbers) == 1 {
		row[numbers[0]] = 1
		return row
	}
	lengths := []byte{0}
	deep := rnd.Intn(2) == 0
	for len(lengths) < len(numbers) {
		at := rnd.Intn(len(lengths))
		if deep {
			at = len(lengths) - 1 - rnd.Intn(min(3, len(lengths)))
		}
		if lengths[at] < 15 {
			lengths[at]++
			lengths = append(lengths, lengths[at])
		} else {
			deep = false
		}
	}
	rnd.Shuffle(len(lengths), func(i, j int) { lengths[i], lengths[j] = lengths[j], lengths[i] })
	for i, number := range numbers {
		row[number] = lengths[i]
	}
	return row
}

// drawnNumbers: up to most different numbers from first on below end.
func drawnNumbers(rnd *rand.Rand, first, end, most int) []int {
	numbers := rnd.Perm(end - first)[:rnd.Intn(min(most, end-first)+1)]
	for i := range numbers {
		numbers[i] += first
	}
	return numbers
}

// drawnCoded: a coded one that is right.
func drawnCoded(rnd *rand.Rand) []byte {
	used := append(drawnNumbers(rnd, 0, 256, []int{3, 40, 256}[rnd.Intn(3)]), rnd.Intn(256))
	slices.Sort(used)
	used = append(slices.Compact(used), drawnNumbers(rnd, 256, []int{260, 266, 277}[rnd.Intn(3)], 21)...)
	ways := drawnNumbers(rnd, 0, []int{2, 6, 18}[rnd.Intn(3)], 18)
	first, second := drawnRow(rnd, 277, used), drawnRow(rnd, 18, ways)
	symbols, _ := plainCodes(first)
	distances, _ := plainCodes(second)
	var bits strings.Builder
	told, size := 0, 1+rnd.Intn([]int{3, 300}[rnd.Intn(2)])
	for told < size {
		s := used[rnd.Intn(len(used))]
		if s < 256 {
			bits.WriteString(symbols[s])
			told++
			continue
		}
		if len(ways) == 0 {
			continue
		}
		length, lengthBits := drawnValue(rnd, s-256, 8, 5, 3)
		d := ways[rnd.Intn(len(ways))]
		way, wayBits := drawnValue(rnd, d, 4, 2, 1)
		if way <= told && told+length <= api.MaxObject {
			bits.WriteString(symbols[s] + lengthBits + distances[d] + wayBits)
			told += length
		}
	}
	return coded(told, slices.Concat(first, second), bits.String())
}

func drawnValue(rnd *rand.Rand, number, alone, less, least int) (value int, bits string) {
	if number < alone {
		return least + number, ""
	}
	x := rnd.Intn(1 << (number - less))
	return least + 1<<(number-less) + x, digits(x, number-less)
}

// hurt changes a few bytes or bits, or lays others in.
func hurt(rnd *rand.Rand, b []byte) []byte {
	b = bytes.Clone(b)
	for range rnd.Intn(3) {
		at := rnd.Intn(len(b) + 1)
		switch rnd.Intn(5) {
		case 0:
			b = b[:at]
		case 1:
			b = slices.Insert(b, at, byte(rnd.Intn(256)))
		case 2:
			b = append(b, 0)
		default:
			if at < len(b) {
				b[max(at, rnd.Intn(len(b)))] ^= 1 << rnd.Intn(8)
			}
		}
	}
	return b
}

// count gathers how often each number was answered, so that a test knows that it met them all.
type count map[api.Errno]int

func (c count) met(t *testing.T, all ...api.Errno) {
	t.Helper()
	for _, e := range all {
		if c[e] < 50 {
			t.Errorf("%d is answered %d times: too seldom for a test", e, c[e])
		}
	}
}

func TestDrawnCoded(t *testing.T) { // P8.3, P8.4, P8.5
	rnd := rand.New(rand.NewSource(1))
	seen := count{}
	for range 6000 {
		b := drawnCoded(rnd)
		if e := asModel(t, b, api.MaxObject); e != api.OK {
			t.Fatalf("%x: %d", b, e)
		}
		seen[asModel(t, hurt(rnd, b), []int{-1, 0, 5, 300, api.MaxObject, 1 << 40}[rnd.Intn(6)])]++
	}
	seen.met(t, api.OK, api.ErrPressForm, api.ErrPressLong)
}

func TestDrawnRows(t *testing.T) { // P8.3, P8.4: code lengths that make a row, or nearly
	rnd := rand.New(rand.NewSource(2))
	seen := count{}
	for range 6000 {
		first := drawnRow(rnd, 277, drawnNumbers(rnd, 0, 277, []int{2, 20, 277}[rnd.Intn(3)]))
		second := drawnRow(rnd, 18, drawnNumbers(rnd, 0, 18, 18))
		all := slices.Concat(first, second)
		for range rnd.Intn(3) {
			all[rnd.Intn(len(all))] = byte(rnd.Intn(16))
		}
		code, _ := plainCodes(first)
		bits := ""
		for s, c := range code {
			if s < 256 {
				bits = max(bits, c)
			}
		}
		seen[asModel(t, coded(1, all, bits), 1)]++
	}
	seen.met(t, api.OK, api.ErrPressForm)
}

func TestAnybodysBytes(t *testing.T) { // P8.5, R1, R5: bytes that nobody pressed
	rnd := rand.New(rand.NewSource(3))
	seen := count{}
	for range 50000 {
		b := make([]byte, rnd.Intn(14))
		for i := range b {
			b[i] = []byte{0, 1, 2, 3, 4, 5, 6, 7, 0x7f, 0x80, 0x81, 0xff}[rnd.Intn(12)]
		}
		seen[asModel(t, b, rnd.Intn(10)-2)]++
	}
	seen.met(t, api.OK, api.ErrPressForm, api.ErrPressLong)
	for range 3000 {
		b := make([]byte, 150+rnd.Intn(20))
		rnd.Read(b)
		b[0], b[1] = byte(rnd.Intn(2)), byte(rnd.Intn(170))
		asModel(t, b, 200)
	}
}

func TestEveryShortOne(t *testing.T) { // P8.1, P8.2, P8.5: all byte strings of up to two bytes, of three that begin with 0 or 1
	for size := range 4 {
		for bits := range 1 << (8 * size) {
			b := []byte{byte(bits), byte(bits >> 8), byte(bits >> 16)}[:size]
			if size == 3 && b[0] > 1 {
				continue
			}
			asModel(t, b, 1)
		}
	}
}
