package delta

import (
	"bytes"
	"math/rand"
	"strings"
	"testing"

	"satchel/api"
)

// most: the bytes that a delta may have by P7.3.
func most(base, target string) int {
	p := 0
	for p < len(base) && p < len(target) && base[p] == target[p] {
		p++
	}
	a, b := base[p:], target[p:]
	s := 0
	for s < len(a) && s < len(b) && a[len(a)-1-s] == b[len(b)-1-s] {
		s++
	}
	return len(target) - p - s + 32
}

// made holds Make's answer against P7.3.
func made(t *testing.T, name, base, target string) []byte {
	t.Helper()
	d, e := Make([]byte(base), []byte(target))
	if e != api.OK {
		t.Fatalf("%s: Make %d", name, e)
	}
	if len(d) > most(base, target) {
		t.Errorf("%s: %d bytes, at most %d may be", name, len(d), most(base, target))
	}
	if b, e := Apply([]byte(base), d); e != api.OK || string(b) != target {
		t.Errorf("%s: Apply gives %d bytes, %d", name, len(b), e)
	}
	if b, e := plain([]byte(base), d); e != api.OK || b != target {
		t.Errorf("%s: the model gives %d bytes, %d", name, len(b), e)
	}
	if n, m, e := Size(d); n != len(base) || m != len(target) || e != api.OK {
		t.Errorf("%s: Size %d, %d, %d", name, n, m, e)
	}
	again, _ := Make(append([]byte(base), "more"...)[:len(base)], []byte(target))
	if !bytes.Equal(d, again) {
		t.Errorf("%s: two calls answer unlike deltas", name)
	}
	return d
}

// noise: bytes without anything in common.
func noise(seed int64, n int) string {
	b := make([]byte, n)
	rand.New(rand.NewSource(seed)).Read(b)
	return string(b)
}

// turned: a text with other bytes at some places.
func turned(s string, places ...int) string {
	b := []byte(s)
	for _, at := range places {
		b[at] ^= 1
	}
	return string(b)
}

// twoLetters: a text in which all short pieces stand many times.
func twoLetters(s string) string {
	b := []byte(s)
	for i := range b {
		b[i] = 'a' + b[i]&1
	}
	return string(b)
}

func TestMakeOfEdges(t *testing.T) { // P7.3
	const full = api.MaxObject
	one, two := noise(1, full), noise(2, full)
	periodic, run := text(full), strings.Repeat("a", full)
	letters := twoLetters(one)
	for _, c := range []struct{ name, base, target string }{
		{"both empty", "", ""},
		{"an empty base", "", "abc"},
		{"an empty target", "abc", ""},
		{"an empty base, the greatest target", "", one},
		{"the greatest base, an empty target", one, ""},
		{"the example", "hello world", "hello, world"},
		{"the greatest ones, the same", one, one},
		{"the greatest ones, of one text", run, run},
		{"the greatest ones, nothing in common", one, two},
		{"the base is its beginning", one[:40000], one},
		{"the base is its end", one[30000:], one},
		{"the base is in its middle", one[10000:50000], one},
		{"its beginning alone", one, one[:300]},
		{"its end alone", one, one[300:]},
		{"its middle alone", one, one[300:60000]},
		{"one byte of it is another", one, turned(one, 30000)},
		{"the first byte is another", one, turned(one, 0)},
		{"the last byte is another", one, turned(one, full-1)},
		{"many bytes of it are others", one, turned(one, 0, 1, 2, 100, 102, 104, 20000, 30000, 40000, full-3, full-1)},
		{"new bytes at both ends", one[:60000], two[:2000] + one[:60000] + two[2000:4000]},
		{"twice the base", one[:30000], one[:30000] + one[:30000]},
		{"a base of one block", periodic, periodic[:30000] + "x" + periodic[30000:full-1]},
		{"a base of one block, another phase", periodic, periodic[5:] + periodic[:5]},
		{"a base of one block, and noise", periodic, one},
		{"noise, and a target of one block", one, periodic},
		{"an end whose pieces stand everywhere", letters, "#" + letters[full/2:]},
		{"both ends, their pieces stand everywhere", letters, letters[:full/3] + "#" + letters[full/2:]},
		{"a run, and noise at both ends", run, one[:100] + run[:full-200] + one[100:200]},
		{"a run that is shorter", run, run[:full-1]},
		{"a run that is longer", run[:full-1], run},
		{"ends that would overlap", "aaaa", "aaa"},
		{"ends that would overlap, in the base", "abab", "ab"},
		{"ends that would overlap, in the target", "ab", "abab"},
		{"ends that would overlap, with more between", strings.Repeat("ab", 300), strings.Repeat("ab", 300) + "a"},
		{"ends that overlap in part", "abcabcabc", "abcabc"},
		{"the end begins in what the beginning took", text(100), text(52)},
	} {
		made(t, c.name, c.base, c.target)
	}
}

func TestMakeRefuses(t *testing.T) { // P7.3, R4
	over := make([]byte, api.MaxObject+1)
	for name, pair := range map[string][2][]byte{"base": {over, nil}, "target": {nil, over}, "both": {over, over}, "base, with the greatest target": {over, over[1:]}, "target, with the greatest base": {over[1:], over}} {
		if d, e := Make(pair[0], pair[1]); len(d) != 0 || e != api.ErrDeltaLong {
			t.Errorf("too long: %s: %d bytes, %d", name, len(d), e)
		}
	}
}

func TestMakeOfShortTexts(t *testing.T) { // P7.3: all texts of up to six of two letters
	var all []string
	for size := range 7 {
		for bits := range 1 << size {
			s := ""
			for i := range size {
				s += "ab"[bits>>i&1:][:1]
			}
			all = append(all, s)
		}
	}
	for _, base := range all {
		for _, target := range all {
			made(t, base+" to "+target, base, target)
		}
	}
}

// drawnText: letters of a small alphabet, so that pieces come again and again.
func drawnText(rnd *rand.Rand, n int) string {
	b := make([]byte, rnd.Intn(n))
	letters := 1 + rnd.Intn(5)
	for i := range b {
		b[i] = "abcde"[rnd.Intn(letters)]
	}
	return string(b)
}

// edited: a text with a few pieces taken out, laid in, moved, doubled.
func edited(rnd *rand.Rand, s string) string {
	for range rnd.Intn(6) {
		from := rnd.Intn(len(s) + 1)
		to := from + rnd.Intn(len(s)-from+1)
		switch rnd.Intn(4) {
		case 0:
			s = s[:from] + s[to:]
		case 1:
			s = s[:from] + noise(rnd.Int63(), rnd.Intn(40)) + s[from:]
		case 2:
			s = s[from:to] + s[:from] + s[to:]
		case 3:
			s = s[:from] + drawnText(rnd, 300) + s[to:] + s[from:to]
		}
		s = s[:min(len(s), 5000)]
	}
	return s
}

func TestMakeOfDrawnTexts(t *testing.T) { // P7.3
	rnd := rand.New(rand.NewSource(3))
	for range 4000 {
		base := drawnText(rnd, 900)
		made(t, "a drawn text", base, edited(rnd, base))
		made(t, "two drawn texts", base, drawnText(rnd, 900))
	}
}

func TestMakeBetweenTheEnds(t *testing.T) { // P7.3, at lengths around those at which a Var or a command takes one byte more
	one, two, three := noise(1, 16400), noise(2, 16400), noise(3, 16400)
	for _, p := range []int{0, 1, 2, 3, 4, 5, 6, 7, 63, 64, 8191, 8192, 16390} {
		for _, s := range []int{0, 1, 3, 5, 6, 7, 8, 9, 63, 64, 8191, 8192} {
			for _, middle := range []int{0, 1, 3, 64, 8192} {
				base := one[:p] + "#" + two[:1000] + "#" + three[:s]
				target := one[:p] + "*" + two[2000:2000+middle] + "*" + three[:s]
				made(t, "between ends", base, target)
			}
		}
	}
}

func TestMakeFindsWhatIsShared(t *testing.T) { // the chapter's Ways: pieces between the ends are found, too
	a, b, c := noise(1, 20000), noise(2, 20000), noise(3, 20000)
	for _, x := range []struct {
		name, base, target string
		most               int
	}{
		{"two halves the other way round", a + b, b + a, 30},
		{"three pieces the other way round", a + b + c, c + b + a, 40},
		{"a piece taken three times", a, "<" + a + "-" + a + "-" + a + ">", 26},
		{"pieces with new bytes between", a + b + c, "<" + c[50:] + "new" + a[70:] + "new" + b[90:] + ">", 60},
		{"a run between new bytes", strings.Repeat("x", 60000), "<" + strings.Repeat("x", 50000) + ">", 30},
		{"small pieces of a small base", "the quick brown fox jumps", "jumps the fox, brown, quick", 26},
	} {
		if d := made(t, x.name, x.base, x.target); len(d) > x.most {
			t.Errorf("%s: %d bytes, want at most %d", x.name, len(d), x.most)
		}
	}
	want := []byte("\x0b\x0c\x0b\x00\x02,\x0d\x05")
	if d, _ := Make([]byte("hello world"), []byte("hello, world")); !bytes.Equal(d, want) {
		t.Errorf("the example is made as %x", d)
	}
}

// scraps: a text of short pieces that stand far behind in the base, with new bytes between them.
func scraps(rnd *rand.Rand, base string, size int) string {
	var b strings.Builder
	for b.Len() < api.MaxObject-100 {
		at := 20000 + rnd.Intn(len(base)-20100)
		b.WriteString(base[at:][:size])
		b.WriteString(noise(rnd.Int63(), 1+rnd.Intn(3)))
	}
	return b.String()
}

func TestMakeTakesCopiesThatPay(t *testing.T) { // P7.3: no delta is longer than one without any copy
	rnd := rand.New(rand.NewSource(4))
	look := func(base, target string) {
		t.Helper()
		d := made(t, "copies that pay", base, target)
		if all := join(vars(uint64(len(base)), uint64(len(target))), adding(target)); len(d) > len(all) {
			t.Fatalf("%d to %d bytes: %d bytes, %d without any copy", len(base), len(target), len(d), len(all))
		}
	}
	for range 4000 {
		look(drawnText(rnd, 400), drawnText(rnd, 400))
	}
	base := noise(5, api.MaxObject)
	for size := range 12 {
		look(base, scraps(rnd, base, size))
	}
}
