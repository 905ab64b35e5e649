package refs

import (
	"math/rand"
	"regexp"
	"strings"
	"testing"
	"unicode/utf8"

	"satchel/api"
)

const partSigns = `A-Za-z0-9_\x{80}-\x{10ffff}`

var goodParts = regexp.MustCompile(`^[` + partSigns + `](\.?[` + partSigns + `-])*(/[` + partSigns + `](\.?[` + partSigns + `-])*)*$`)

// isGood is what a good name is, told otherwise than in the package.
func isGood(name string) bool {
	return len(name) >= 1 && len(name) <= 255 && utf8.ValidString(name) && name != "HEAD" && goodParts.MatchString(name)
}

// checks looks whether a name is good or not, as it is said to be and as isGood tells.
func checks(t *testing.T, name string, want bool) {
	t.Helper()
	e := Check(name)
	if (e == api.OK) != want || e != api.OK && e != api.ErrRefsName {
		t.Errorf("Check(%q): %v, want good %v", name, e, want)
	}
	if isGood(name) != want {
		t.Errorf("isGood(%q), want %v", name, want)
	}
}

func TestCheckExamples(t *testing.T) { // P14.1
	for _, name := range []string{"heads/main", "a", "heads/é"} {
		checks(t, name, true)
	}
	for _, name := range []string{"a.b/-", "", "/a", "a//b", "a/", ".a", "a/.b", "a.", "a..b", "a b", "HEAD", "a\xff"} {
		checks(t, name, false)
	}
}

func TestCheckLengths(t *testing.T) { // P14.1: 1 to MaxName bytes, of runes of 1 to 4 bytes
	for _, r := range []string{"a", "é", "€", "𐍈"} {
		for n := 1; n <= 300; n++ {
			// The runes of several bytes fill up to a length; the rest are letters.
			name := strings.Repeat(r, n/len(r)) + strings.Repeat("z", n%len(r))
			checks(t, name, n <= 255)
			if n > 5 {
				checks(t, "a/"+name[:n/len(r)*len(r)], 2+n/len(r)*len(r) <= 255)
			}
		}
	}
	checks(t, strings.Repeat("a/", 127)+"a", true)
	checks(t, strings.Repeat("a/", 127)+"aa", false)
	checks(t, strings.Repeat("a/", 127), false)
	checks(t, strings.Repeat("a.", 127)+"a", true)
	checks(t, strings.Repeat("a", 1<<20), false)
}

func TestCheckSigns(t *testing.T) { // P14.1: each sign at a part's beginning, within it, at its end, alone
	for b := rune(0); b < 128; b++ {
		sign := string(b)
		plain := b >= 'a' && b <= 'z' || b >= 'A' && b <= 'Z' || b >= '0' && b <= '9' || b == '_'
		begins := plain
		within := plain || b == '.' || b == '-' || b == '/'
		ends := plain || b == '-'
		for _, around := range [][2]string{{"", ""}, {"x/", ""}, {"", "/x"}, {"x/", "/x"}} {
			checks(t, around[0]+sign+around[1], begins)
			checks(t, around[0]+sign+"b"+around[1], begins)
			checks(t, around[0]+"a"+sign+"b"+around[1], within)
			checks(t, around[0]+"é"+sign+"é"+around[1], within)
			checks(t, around[0]+"a"+sign+around[1], ends)
		}
	}
	for _, r := range []rune{128, 0xa0, 0xad, 0x2028, 0xd7ff, 0xe000, 0xfeff, 0xfffd, 0xffff, 0x10000, 0x10ffff, '．', '／', '－', '＊'} {
		for _, name := range []string{string(r), string(r) + "b", "a" + string(r), "a" + string(r) + "b", "x/" + string(r), string(r) + "/x", "a." + string(r), string(r) + "-", string(r) + string(r)} {
			checks(t, name, true)
		}
	}
}

func TestCheckSignsBehindOneAnother(t *testing.T) { // P14.1: all texts of up to six of these signs
	signs := "a.-/_é"
	names := []string{""}
	for i := 0; i < len(names) && len(names) < 60000; i++ {
		for _, r := range signs {
			names = append(names, names[i]+string(r))
		}
	}
	for _, name := range names {
		if (Check(name) == api.OK) != isGood(name) {
			t.Errorf("Check(%q): %v", name, Check(name))
		}
	}
}

func TestCheckBytesThatAreNoText(t *testing.T) { // P14.1: valid UTF-8
	for b := 128; b < 256; b++ {
		sign := string([]byte{byte(b)})
		for _, name := range []string{sign, sign + "a", "a" + sign, "a" + sign + "b", "a/" + sign, sign + "/a", "é" + sign, sign + "é"} {
			if utf8.ValidString(name) {
				t.Fatalf("%q is valid", name)
			}
			checks(t, name, false)
		}
	}
	for _, bad := range []string{"\xc0\x80", "\xc1\xbf", "\xe0\x80\x80", "\xed\xa0\x80", "\xed\xbf\xbf", "\xf0\x80\x80\x80", "\xf4\x90\x80\x80", "\xf8\x88\x80\x80\x80", "\xe2\x82", "\xf0\x90\x8d"} {
		checks(t, bad, false)
		checks(t, "a"+bad+"b", false)
	}
}

func TestCheckHead(t *testing.T) { // P14.1: HEAD alone and as a part
	checks(t, "HEAD", false)
	for _, name := range []string{"heads/HEAD", "HEAD/a", "HEAD/HEAD", "a/HEAD/b", "HEAD1", "HEADS", "XHEAD", "HEA", "head", "Head", "HEAD-", "_HEAD"} {
		checks(t, name, true)
	}
	checks(t, "HEAD/", false)
	checks(t, "/HEAD", false)
	checks(t, "HEAD.", false)
}

// drawName tells a text that often is a name.
func drawName(r *rand.Rand, pieces ...string) string {
	var s strings.Builder
	for range r.Intn(6) {
		s.WriteString(pieces[r.Intn(len(pieces))])
	}
	return s.String()
}

func TestCheckAgainstTheModel(t *testing.T) { // P14.1
	r := rand.New(rand.NewSource(1))
	good := 0
	for range 100000 {
		name := drawName(r, "a", "b", "/", ".", "-", "_", "Z", "7", "é", "€", "𐍈", "\xff", "\xc3", " ", "*", "HEAD", "heads/", "\x00", "~", strings.Repeat("l", 80))
		if isGood(name) {
			good++
		}
		if (Check(name) == api.OK) != isGood(name) {
			t.Errorf("Check(%q): %v", name, Check(name))
		}
	}
	if good < 10000 || good > 90000 {
		t.Errorf("%d of the names are good", good)
	}
}
