package press

import (
	"bytes"
	"math/rand"
	"slices"
	"strings"
	"testing"

	"satchel/api"
)

// pressed holds Press against P8.6, and tells its answer.
func pressed(t *testing.T, name, text string) []byte {
	t.Helper()
	p, e := Press([]byte(text))
	if e != api.OK || len(p) > len(text)+8 {
		t.Fatalf("%s: %d bytes of %d, %d", name, len(p), len(text), e)
	}
	if want := head(p[0], uint64(len(text))); p[0] > 1 || !bytes.HasPrefix(p, want) {
		t.Fatalf("%s begins with %x, not with a method and %d", name, p[:min(len(p), 5)], len(text))
	}
	if again, _ := Press([]byte(text)); !bytes.Equal(again, p) {
		t.Fatalf("%s is pressed in two ways", name)
	}
	if got, e := Unpress(p, len(text)); string(got) != text || e != api.OK {
		t.Fatalf("%s: %d bytes of %d come back, %d", name, len(got), len(text), e)
	}
	if _, e := Unpress(p, len(text)-1); e != api.ErrPressLong {
		t.Fatalf("%s, with a bound too small by one: %d", name, e)
	}
	return p
}

// pressedAsModel holds it against the model, too: what writes and what reads might err alike.
func pressedAsModel(t *testing.T, name, text string) []byte {
	t.Helper()
	p := pressed(t, name, text)
	if got, e := model(p, len(text)); got != text || e != api.OK {
		t.Fatalf("%s: the model reads %d bytes of %d, %d", name, len(got), len(text), e)
	}
	return p
}

func TestPressOfFewBytes(t *testing.T) { // P8.1, P8.6
	for text, want := range map[string]string{"": "\x00\x00", "a": "\x00\x01a", "abc": "\x00\x03abc", "aaaaaaaaaa": "\x00\x0aaaaaaaaaaa"} {
		if p := pressedAsModel(t, text, text); string(p) != want {
			t.Errorf("%q is pressed as %x", text, p)
		}
	}
	if p, e := Press(nil); string(p) != "\x00\x00" || e != api.OK {
		t.Errorf("nil is pressed as %x, %d", p, e)
	}
}

func TestPressRefuses(t *testing.T) { // P8.6, R4
	for _, text := range []string{strings.Repeat("a", api.MaxObject+1), noise(1, api.MaxObject+1), strings.Repeat("a", 1<<20)} {
		if p, e := Press([]byte(text)); len(p) != 0 || e != api.ErrPressLong {
			t.Errorf("%d bytes: %d bytes, %d", len(text), len(p), e)
		}
	}
}

// letters: a text whose letters are not met equally often.
func letters(seed int64, n int) string {
	rnd := rand.New(rand.NewSource(seed))
	b := make([]byte, n)
	for i := range b {
		b[i] = "etaoin shrdlu"[min(rnd.Intn(13), rnd.Intn(13))]
	}
	return string(b)
}

func TestPressOfEveryLength(t *testing.T) { // P8.6
	zeros := strings.Repeat("\x00", api.MaxObject)
	for _, n := range []int{0, 1, 2, 3, 4, 127, 128, 144, 145, 146, 147, 148, 149, 150, 151, 152, 153, 154, 155, 160, 200, 300, 1000, 4095, 4096, 16383, 16384, 32768, api.MaxObject - 1, api.MaxObject} {
		pressedAsModel(t, "noise", noise(1, n))
		pressedAsModel(t, "zeros", zeros[:n])
		pressedAsModel(t, "letters", letters(1, n))
	}
	for n := range 600 {
		pressed(t, "noise", noise(2, n))
		pressed(t, "zeros", zeros[:n])
		pressed(t, "letters", letters(2, n))
		pressed(t, "noise in the middle", zeros[:n]+noise(3, n)+zeros[:n])
	}
}

func TestPressOfDrawnTexts(t *testing.T) { // P8.6
	rnd := rand.New(rand.NewSource(4))
	for range 400 {
		var text []byte
		for range 1 + rnd.Intn(12) {
			piece := []byte(noise(rnd.Int63(), rnd.Intn(200)))
			if from := rnd.Intn(len(text) + 1); rnd.Intn(2) == 0 {
				piece = slices.Clone(text[from : from+rnd.Intn(len(text)-from+1)])
			}
			text = append(text, bytes.Repeat(piece, 1+rnd.Intn(4))...)
			text = text[:min(len(text), 20000)]
		}
		pressedAsModel(t, "a drawn text", string(text))
	}
}

// blocks: blocks of k bytes of many kinds, among them those in which the same few bytes stand again and again.
func blocks(k int) map[string]string {
	b := []byte(noise(int64(k), k))
	two := slices.Clone(b)
	rising := slices.Clone(b)
	for i := range b {
		two[i] = 'a' + b[i]%2
		rising[i] = byte(i)
	}
	return map[string]string{
		"noise":        string(b),
		"two letters":  string(two),
		"rising bytes": string(rising),
		"a run":        strings.Repeat("a", k-1) + "b",
		"two runs":     strings.Repeat("a", k/2) + strings.Repeat("b", k-k/2),
		"short runs":   (strings.Repeat("aaab", k))[:k-1] + "c",
	}
}

func over(block string, n int) string { return strings.Repeat(block, n/len(block)+1)[:n] }

func TestPressOfBlocksOverAndOver(t *testing.T) { // P8.6
	for k := 1; k <= 256; k++ {
		for name, block := range blocks(k) {
			sizes := []int{4096}
			if slices.Contains([]int{1, 2, 3, 128, 255, 256}, k) {
				sizes = []int{4095, 4096, 4097, 10000, api.MaxObject - 1, api.MaxObject}
			}
			for _, n := range sizes {
				if p := pressed(t, name, over(block, n)); n >= 4096 && len(p) > 1024 {
					t.Errorf("%d bytes of a block of %d over and over (%s): %d bytes", n, k, name, len(p))
				}
			}
		}
	}
	for name, block := range blocks(257) {
		for _, n := range []int{4095, 4096, api.MaxObject} {
			pressedAsModel(t, name, over(block, n))
		}
	}
}

// unlike: letters of weights by a rule, mixed.
func unlike(next func(a, b int) int) string {
	var text []byte
	a, b := 1, 1
	for x := byte(0); len(text)+a <= api.MaxObject; x++ {
		text = append(text, bytes.Repeat([]byte{x}, a)...)
		a, b = b, next(a, b)
	}
	rand.New(rand.NewSource(5)).Shuffle(len(text), func(i, j int) { text[i], text[j] = text[j], text[i] })
	return string(text)
}

func TestPressOfUnlikeWeights(t *testing.T) { // P8.3, P8.6: codes would be longer than 15 bits
	for _, next := range []func(a, b int) int{func(a, b int) int { return a + b }, func(a, b int) int { return 2 * b }, func(a, b int) int { return a + b + 1 }} {
		text := unlike(next)
		if p := pressedAsModel(t, "unlike weights", text); len(p) > len(text)/2 {
			t.Errorf("%d bytes of %d", len(p), len(text))
		}
	}
}

func TestPressMakesFewer(t *testing.T) { // the chapter's beginning: copies, and codes that are the shorter the more often they are met
	once := noise(6, 30000)
	for _, c := range []struct {
		name, text string
		most       int
	}{
		{"twice the same", once + once, 30000 + 400},
		{"a piece from far back", once + noise(7, 30000) + once[:5000], 60000 + 400},
		{"one byte", strings.Repeat("a", 1000), 160},
		{"letters", letters(3, 20000), 12000},
		{"lines", strings.Repeat("the quick brown fox ", 30) + strings.Repeat("jumps over the dog ", 30), 200},
	} {
		if p := pressedAsModel(t, c.name, c.text); len(p) > c.most {
			t.Errorf("%s: %d bytes of %d, want at most %d", c.name, len(p), len(c.text), c.most)
		}
	}
}

// huffman tells how many bits some weights cost at least, whatever the lengths, and how long the longest code is then.
func huffman(weights []int) (cost, deepest int) {
	type node struct{ weight, deep int }
	var line []node
	for _, w := range weights {
		if w > 0 {
			line = append(line, node{weight: w})
		}
	}
	for len(line) > 1 {
		slices.SortStableFunc(line, func(a, b node) int { return a.weight - b.weight })
		both := node{weight: line[0].weight + line[1].weight, deep: 1 + max(line[0].deep, line[1].deep)}
		cost += both.weight
		line = append([]node{both}, line[2:]...)
	}
	return cost, line[0].deep
}

func TestCodeLengthsAreTheBest(t *testing.T) { // P8.3, P8.6
	rnd := rand.New(rand.NewSource(8))
	bounded := 0
	for range 1000 {
		weights := make([]int, 2+rnd.Intn(276))
		for i := range weights {
			weights[i] = rnd.Intn(1 << rnd.Intn(17))
		}
		weights[0], weights[1] = 1, 1
		if rnd.Intn(3) == 0 {
			for i := 2; i < min(len(weights), 17+rnd.Intn(6)); i++ {
				weights[i] = weights[i-1] + weights[i-2]
			}
		}
		lengths := make([]byte, len(weights))
		share(weights, lengths)
		cost := 0
		for i, length := range lengths {
			cost += weights[i] * int(length)
			if (length > 0) != (weights[i] > 0) {
				t.Fatalf("the weight %d has %d bits", weights[i], length)
			}
		}
		if _, ok := plainCodes(lengths); !ok || slices.Max(lengths) > 15 {
			t.Fatalf("%v is no row", lengths)
		}
		best, deepest := huffman(weights)
		if deepest > 15 {
			bounded++
		}
		if cost < best || deepest <= 15 && cost > best || cost > best+best/50+20 {
			t.Fatalf("%d bits, want %d (%d)", cost, best, deepest)
		}
	}
	if bounded < 50 {
		t.Errorf("only %d rows are bounded", bounded)
	}
}
