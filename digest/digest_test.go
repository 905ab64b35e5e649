package digest

import (
	"bytes"
	"crypto/hmac"
	"crypto/sha256"
	"encoding/hex"
	"math/rand"
	"slices"
	"strings"
	"testing"

	"satchel/api"
)

const longText = "abcdbcdecdefdefgefghfghighijhijkijkljklmklmnlmnomnopnopq"

// some tells n bytes that do not repeat themselves from block to block.
func some(n int) []byte {
	b := make([]byte, n)
	rand.New(rand.NewSource(int64(n))).Read(b)
	return b
}

// roomy tells a copy of bytes with marked spare room behind its end, and the whole of it.
func roomy(b []byte) (piece, whole []byte) {
	whole = append(bytes.Clone(b), bytes.Repeat([]byte{0xee}, 200)...)
	return whole[:len(b)], whole
}

func parsed(t *testing.T, s string) api.ID {
	t.Helper()
	id, e := Parse(s)
	if e != api.OK {
		t.Fatalf("Parse(%q): %v", s, e)
	}
	return id
}

// starting tells an id whose digits begin so, and go on with zeros.
func starting(t *testing.T, begin string) api.ID {
	t.Helper()
	return parsed(t, begin+strings.Repeat("0", 64-len(begin)))
}

// edges are the lengths around the ends of blocks, and around the place where the padding takes one block more.
var edges = []int{0, 1, 3, 54, 55, 56, 57, 62, 63, 64, 65, 66, 118, 119, 120, 121, 127, 128, 129, 191, 192, 193, 1000, 4096, 65536}

func TestSumExamples(t *testing.T) { // P2.1, P2.2
	for text, want := range map[string]string{
		"":       "e3b0c44298fc1c149afbf4c8996fb92427ae41e4649b934ca495991b7852b855",
		"abc":    "ba7816bf8f01cfea414140de5dae2223b00361a396177a9cb410ff61f20015ad",
		longText: "248d6a61d20638b8e5c026930c3e6039a33ce45964ff2167f6ecedd419db06c1",
	} {
		if got := Hex(Sum([]byte(text))); got != want {
			t.Errorf("Sum(%q): %s, want %s", text, got, want)
		}
	}
	if Sum(nil) != Sum([]byte{}) {
		t.Error("nil and empty differ")
	}
}

func TestSumOfEveryLength(t *testing.T) { // P2.1, P2.2
	for n := range 260 {
		if b := some(n); Sum(b) != api.ID(sha256.Sum256(b)) {
			t.Errorf("%d bytes: %s", n, Hex(Sum(b)))
		}
	}
	for _, n := range edges {
		for _, b := range [][]byte{some(n), make([]byte, n), bytes.Repeat([]byte{0xff}, n)} {
			if Sum(b) != api.ID(sha256.Sum256(b)) {
				t.Errorf("%d bytes: %s", n, Hex(Sum(b)))
			}
		}
	}
}

func TestSumTellsTheLengthInSeveralBytes(t *testing.T) { // P2.1
	// 8n has a third byte from 8192 bytes on, a fourth one from 2 MiB on.
	for _, n := range []int{8191, 8192, 1<<21 - 1, 1 << 21, 1<<21 + 77} {
		if b := some(n); Sum(b) != api.ID(sha256.Sum256(b)) {
			t.Errorf("%d bytes: %s", n, Hex(Sum(b)))
		}
	}
}

func TestHashOfNothing(t *testing.T) { // P2.3
	h := New()
	if h.Sum() != Sum(nil) {
		t.Errorf("New: %s", Hex(h.Sum()))
	}
	h.Write(nil)
	h.Write([]byte{})
	if h.Sum() != Sum(nil) {
		t.Errorf("New with empty Writes: %s", Hex(h.Sum()))
	}
}

func TestHashHoweverCut(t *testing.T) { // P2.3
	for _, n := range edges[:len(edges)-1] {
		b, want := some(n), Sum(some(n))
		for _, size := range []int{1, 7, 55, 56, 63, 64, 65, 128, 129} {
			h := New()
			for piece := range slices.Chunk(b, size) {
				h.Write(piece)
				h.Write(nil)
			}
			if h.Sum() != want {
				t.Errorf("%d bytes in pieces of %d: %s", n, size, Hex(h.Sum()))
			}
		}
		for cut := 0; cut <= min(n, 130); cut++ {
			h := New()
			h.Write(b[:cut])
			h.Write(b[cut:])
			if h.Sum() != want {
				t.Errorf("%d bytes cut at %d: %s", n, cut, Hex(h.Sum()))
			}
		}
	}
}

func TestHashSumOnTheWay(t *testing.T) { // P2.3
	h := New()
	h.Write([]byte("a"))
	if h.Sum() != Sum([]byte("a")) || h.Sum() != Sum([]byte("a")) {
		t.Errorf("a: %s", Hex(h.Sum()))
	}
	h.Write([]byte("bc"))
	if h.Sum() != Sum([]byte("abc")) {
		t.Errorf("a, bc: %s", Hex(h.Sum()))
	}
	b := some(200)
	h = New()
	for i := range b {
		h.Write(b[i : i+1])
		if h.Sum() != api.ID(sha256.Sum256(b[:i+1])) {
			t.Errorf("%d bytes on the way: %s", i+1, Hex(h.Sum()))
		}
	}
}

func TestTwoHashesInTurns(t *testing.T) { // P2.3
	a, b := some(300), some(301)
	one, two := New(), New()
	for i := 0; i < 300; i += 20 {
		one.Write(a[i : i+20])
		two.Write(b[i : i+20])
		if one.Sum() != api.ID(sha256.Sum256(a[:i+20])) || two.Sum() != api.ID(sha256.Sum256(b[:i+20])) {
			t.Fatalf("%d bytes: %s, %s", i+20, Hex(one.Sum()), Hex(two.Sum()))
		}
	}
	if New().Sum() != Sum(nil) {
		t.Error("a later Hash begins with what the others were given")
	}
}

func TestHashKeepsNothing(t *testing.T) { // P2.8
	for _, n := range edges {
		b, whole := roomy(some(n))
		kept := bytes.Clone(whole)
		h := New()
		h.Write(b)
		h.Sum()
		if !bytes.Equal(whole, kept) {
			t.Fatalf("%d bytes: Write or Sum has changed them or the room behind them", n)
		}
		clear(whole)
		if h.Sum() != api.ID(sha256.Sum256(kept[:n])) {
			t.Errorf("%d bytes: Sum hangs on the caller's bytes", n)
		}
	}
}

func TestSumChangesNothing(t *testing.T) { // P2.8
	for _, n := range edges {
		b, whole := roomy(some(n))
		kept := bytes.Clone(whole)
		if Sum(b) != api.ID(sha256.Sum256(kept[:n])) || !bytes.Equal(whole, kept) {
			t.Errorf("%d bytes with room behind them", n)
		}
	}
}

func TestHex(t *testing.T) { // P2.4
	if got := Hex(api.ID{}); got != strings.Repeat("0", 64) {
		t.Errorf("zeros: %s", got)
	}
	for n := range 256 {
		for place := range 32 {
			id := api.ID{0x12, 31: 0x9a}
			id[place] = byte(n)
			if got := Hex(id); got != hex.EncodeToString(id[:]) {
				t.Fatalf("Hex(%v): %s", id, got)
			}
			if back, e := Parse(Hex(id)); back != id || e != api.OK {
				t.Fatalf("Parse(Hex(%v)): %v, %v", id, back, e)
			}
		}
	}
}

func TestParse(t *testing.T) { // P2.4
	s := strings.Repeat("0123456789abcdef", 4)
	want := api.ID{}
	hex.Decode(want[:], []byte(s))
	if id, e := Parse(s); id != want || e != api.OK {
		t.Errorf("Parse(%s): %v, %v", s, id, e)
	}
}

func TestParseRefuses(t *testing.T) { // P2.4
	s := strings.Repeat("0123456789abcdef", 4)
	wrong := []string{"", "0", s[1:], s + "0", s + s, "\x00" + s, strings.ToUpper(s), s[:63] + "A", s[:62] + "\u00e9", strings.Repeat("\xff", 64)}
	for _, w := range wrong {
		if id, e := Parse(w); id != (api.ID{}) || e != api.ErrDigestHex {
			t.Errorf("Parse(%q): %v, %v", w, id, e)
		}
	}
	for n := range 256 {
		sign := byte(n)
		right := '0' <= sign && sign <= '9' || 'a' <= sign && sign <= 'f'
		for place := range 64 {
			b := []byte(s)
			b[place] = sign
			id, e := Parse(string(b))
			if right && (e != api.OK || Hex(id) != string(b)) || !right && (e != api.ErrDigestHex || id != (api.ID{})) {
				t.Fatalf("Parse(%q): %v, %v", b, id, e)
			}
		}
	}
}

func TestMatch(t *testing.T) { // P2.5
	a, b, c, d := starting(t, "abcdef01"), starting(t, "abcdef02"), starting(t, "abce"), starting(t, "0bcd")
	list := []api.ID{c, b, a, b, d, a, a, b}
	for _, x := range []struct {
		prefix string
		want   []api.ID
	}{
		{"abcd", []api.ID{a, b}},
		{"abcde", []api.ID{a, b}},
		{"abcdef0", []api.ID{a, b}},
		{"abcdef01", []api.ID{a}},
		{"abcdef03", nil},
		{"abcdef011", nil},
		{"abce", []api.ID{c}},
		{"abce0", []api.ID{c}},
		{"0bcd", []api.ID{d}},
		{"bcde", nil},
		{"0000", nil},
		{Hex(c), []api.ID{c}},
		{Hex(c)[:63], []api.ID{c}},
		{Hex(c)[:63] + "1", nil},
	} {
		if got, e := Match(list, x.prefix); !slices.Equal(got, x.want) || e != api.OK {
			t.Errorf("Match(%s): %x, %v", x.prefix, got, e)
		}
	}
	if got, e := Match(nil, "abcd"); len(got) != 0 || e != api.OK {
		t.Errorf("Match of no ids: %x, %v", got, e)
	}
	if got, e := Match([]api.ID{{}, {}}, "0000"); len(got) != 1 || e != api.OK {
		t.Errorf("Match of the zero id: %x, %v", got, e)
	}
}

func TestMatchSortsByBytes(t *testing.T) { // P2.5
	var list []api.ID
	for n := range 256 {
		list = append(list, api.ID{0xab, 0xcd, 5: byte(n * 7)}, api.ID{0xab, 0xcd, 31: byte(n * 11)}, api.ID{0xab, 0xcd, 5: byte(n)})
	}
	got, e := Match(list, "abcd")
	want := slices.Clone(list)
	slices.SortFunc(want, func(a, b api.ID) int { return strings.Compare(Hex(a), Hex(b)) })
	want = slices.Compact(want)
	if !slices.Equal(got, want) || e != api.OK {
		t.Errorf("%d ids of %d, %v", len(got), len(want), e)
	}
}

func TestMatchRefuses(t *testing.T) { // P2.5
	a := starting(t, "abcd")
	for _, w := range []string{"", "a", "abc", "ABCD", "abcD", "abcg", "abc ", "ab:d", "ab/d", "ab`d", "ab@d", "abcdG", Hex(a) + "0", "\u00e9\u00e9", "abc\x00"} {
		if got, e := Match([]api.ID{a}, w); len(got) != 0 || e != api.ErrDigestHex {
			t.Errorf("Match(%q): %x, %v", w, got, e)
		}
		if got, e := Match(nil, w); len(got) != 0 || e != api.ErrDigestHex {
			t.Errorf("Match(%q) of no ids: %x, %v", w, got, e)
		}
	}
}

func TestMatchKeepsToItsOwnMemory(t *testing.T) { // P2.8
	a, b := starting(t, "abcd01"), starting(t, "abcd02")
	whole := []api.ID{b, a, b, {0xee}, {0xee}}
	kept := slices.Clone(whole)
	got, _ := Match(whole[:3], "abcd")
	again, _ := Match(whole[:3], "abcd")
	if !slices.Equal(whole, kept) {
		t.Errorf("the list or the room behind it has been changed: %x", whole)
	}
	for _, list := range [][]api.ID{got, again} {
		clear(list[:cap(list)])
	}
	if !slices.Equal(whole, kept) {
		t.Error("the answer shares memory with the list")
	}
	got, _ = Match(whole[:3], "abcd")
	again, _ = Match(whole[:3], "abcd")
	clear(got[:cap(got)])
	if !slices.Equal(again, []api.ID{a, b}) {
		t.Error("two answers share memory")
	}
}

func TestShort(t *testing.T) { // P2.6
	x := starting(t, "0123456789abcdef")
	other := func(place int) api.ID { // parts from x at that digit, the first being 1
		b := []byte(Hex(x))
		if b[place-1] == 'f' {
			b[place-1] = 'e'
		} else {
			b[place-1] = 'f'
		}
		return parsed(t, string(b))
	}
	for place := 1; place <= 64; place++ {
		want := Hex(x)[:max(4, place)]
		for _, list := range [][]api.ID{{other(place)}, {x, other(place)}, {other(place), x, x}, {other(1), other(place), other(1)}} {
			if got := Short(list, x); got != want {
				t.Errorf("parting at digit %d of %d ids: %s, want %s", place, len(list), got, want)
			}
		}
	}
	for _, list := range [][]api.ID{nil, {}, {x}, {x, x}, {other(4), x}} {
		if got := Short(list, x); got != "0123" {
			t.Errorf("Short of %d ids: %s", len(list), got)
		}
	}
	if got := Short([]api.ID{other(5), other(9), other(7)}, x); got != "012345678" {
		t.Errorf("the farthest of three: %s", got)
	}
	if got := Short([]api.ID{{31: 1}}, api.ID{}); got != strings.Repeat("0", 64) {
		t.Errorf("the last digit parts: %s", got)
	}
}

func TestShortIsFoundByMatch(t *testing.T) { // P2.5, P2.6
	var list []api.ID
	for n := range 3000 {
		id := Sum([]byte{byte(n), byte(n >> 8)})
		id[0] = 0x77
		list = append(list, id)
	}
	for _, id := range list {
		short := Short(list, id)
		if got, e := Match(list, short); !slices.Equal(got, []api.ID{id}) || e != api.OK {
			t.Fatalf("Match(%s): %x, %v", short, got, e)
		}
		if got, _ := Match(list, short[:max(4, len(short)-1)]); len(short) > 4 && len(got) < 2 {
			t.Fatalf("%s might be shorter", short)
		}
	}
}

func TestShortChangesNothing(t *testing.T) { // P2.8
	whole := []api.ID{{2}, {1}, {2}, {0xee}}
	kept := slices.Clone(whole)
	Short(whole[:3], api.ID{1})
	if !slices.Equal(whole, kept) {
		t.Errorf("%x", whole)
	}
}

func TestKeyedExamples(t *testing.T) { // P2.7
	for _, x := range []struct{ key, text, want string }{
		{strings.Repeat("\x0b", 20), "Hi There", "b0344c61d8db38535ca8afceaf0bf12b881dc200c9833da726e9376c2e32cff7"},
		{"Jefe", "what do ya want for nothing?", "5bdcc146bf60754e6a042426089575c75a003f089d2739839dec58b964ec3843"},
	} {
		if got := Hex(Keyed([]byte(x.key), []byte(x.text))); got != x.want {
			t.Errorf("Keyed(%q): %s, want %s", x.text, got, x.want)
		}
	}
}

func TestKeyed(t *testing.T) { // P2.7, P2.8
	for _, size := range []int{0, 1, 31, 32, 33, 63, 64, 65, 66, 128, 129, 1000} {
		for _, n := range edges {
			key, wholeKey := roomy(some(size))
			b, whole := roomy(some(n))
			keptKey, kept := bytes.Clone(wholeKey), bytes.Clone(whole)
			m := hmac.New(sha256.New, key)
			m.Write(b)
			if got := Keyed(key, b); !bytes.Equal(got[:], m.Sum(nil)) {
				t.Errorf("a key of %d, a text of %d: %s", size, n, Hex(got))
			}
			if !bytes.Equal(wholeKey, keptKey) || !bytes.Equal(whole, kept) {
				t.Fatalf("a key of %d, a text of %d: they or the room behind them have been changed", size, n)
			}
		}
	}
}

func TestKeyedKeysThatAreOne(t *testing.T) { // P2.7
	key, text := some(64), []byte("text")
	if Keyed(nil, text) != Keyed(make([]byte, 64), text) || Keyed(key[:10], text) != Keyed(append(bytes.Clone(key[:10]), 0, 0), text) {
		t.Error("zero bytes behind a key make a difference")
	}
	if Keyed(nil, text) == Keyed(make([]byte, 65), text) {
		t.Error("65 zero bytes are taken for 64")
	}
	long := some(65)
	short := Sum(long)
	if Keyed(long, text) != Keyed(short[:], text) {
		t.Error("a key of 65 bytes is not its digest")
	}
	if full := Sum(key); Keyed(key, text) == Keyed(full[:], text) {
		t.Error("a key of 64 bytes is its digest")
	}
	if Keyed(key, nil) != Keyed(key, []byte{}) {
		t.Error("nil and empty differ")
	}
}
