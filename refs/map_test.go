package refs

import (
	"fmt"
	"maps"
	"math/rand"
	"slices"
	"strings"
	"testing"

	"satchel/api"
)

// three are the rules of the chapter's examples.
func three() []api.Rule {
	return []api.Rule{rule("heads/*", "far/x/*"), force("tags/*", "tags/*"), not("heads/tmp*")}
}

// mapsTo looks whether Map tells a target, by a rule with Force or without; no target: that it tells none.
func mapsTo(t *testing.T, rules []api.Rule, name, target string, forced bool) {
	t.Helper()
	if got, gotForced, ok := Map(rules, name); got != target || gotForced != forced || ok != (target != "") {
		t.Errorf("Map(%.200v, %.40q): %.40q, %v, %v, want %.40q, %v", rules, name, got, gotForced, ok, target, forced)
	}
}

// unmapsTo looks whether Unmap tells a name; no name: that it tells none.
func unmapsTo(t *testing.T, rules []api.Rule, target, name string) {
	t.Helper()
	if got, ok := Unmap(rules, target); got != name || ok != (name != "") {
		t.Errorf("Unmap(%.200v, %.40q): %.40q, %v, want %.40q", rules, target, got, ok, name)
	}
}

// clashes looks whether Clash tells a target; no target: that it tells none.
func clashes(t *testing.T, rules []api.Rule, names []string, target string) {
	t.Helper()
	if got, ok := Clash(rules, names); got != target || ok != (target != "") {
		t.Errorf("Clash(%.200v, %.200q): %.40q, %v, want %.40q", rules, names, got, ok, target)
	}
}

func TestMapExamples(t *testing.T) { // P14.4
	mapsTo(t, three(), "heads/a", "far/x/a", false)
	mapsTo(t, three(), "heads/tmp1", "", false)
	mapsTo(t, three(), "tags/v", "tags/v", true)
	mapsTo(t, three(), "other", "", false)
	mapsTo(t, nil, "heads/a", "", false)
	mapsTo(t, []api.Rule{}, "heads/a", "", false)
}

func TestWhatFitsASide(t *testing.T) { // 'Rules', P14.3
	l := strings.Repeat("l", 253)
	for _, c := range []struct {
		side, text, middle string
		fits               bool
	}{
		{"a", "a", "", true}, {"a", "ab", "", false}, {"ab", "a", "", false}, {"a", "b", "", false}, {"é", "é", "", true},
		{"*", "a", "a", true}, {"*", "a/b", "a/b", true}, {"*", l, l, true},
		{"a*", "a", "", true}, {"a*", "ab", "b", true}, {"a*", "a/b/c", "/b/c", true}, {"a*", "b", "", false}, {"a*", "ba", "", false}, {"aa*", "a", "", false},
		{"*a", "a", "", true}, {"*a", "ba", "b", true}, {"*a", "ab", "", false}, {"*aa", "a", "", false}, {"*a", "aa", "a", true},
		{"a*b", "ab", "", true}, {"a*b", "a-b", "-", true}, {"a*b", "a", "", false}, {"a*b", "b", "", false}, {"a*b", "abc", "", false}, {"a*b", "cab", "", false}, {"a*b", "abab", "ba", true},
		// What stands ahead of the star and what stands behind it don't share a byte.
		{"a*a", "a", "", false}, {"a*a", "aa", "", true}, {"ab*ba", "aba", "", false}, {"ab*ba", "abba", "", true}, {"a/*/b", "a/b", "", false}, {"a/*/b", "a/c/b", "c", true},
		// Middles of bytes: a rune may be cut by the star.
		{"\xc3*", "é", "\xa9", true}, {"*\xa9", "é", "\xc3", true}, {"\xc3*\xa9", "é", "", true}, {"\xe2*", "é", "", false},
		// Stars behind the first one are bytes like any; a name has none.
		{"**", "a", "", false}, {"a**", "a", "", false}, {"*a*", "a", "", false}, {"a*b*", "ab", "", false}, {"*?", "a", "", false}, {"[a]", "a", "", false}, {".", "a", "", false},
		{"", "a", "", false}, {"A", "a", "", false}, {"heads*", "heads/a", "/a", true}, {"heads/*", "heads", "", false}, {"heads/*", "head", "", false},
	} {
		// A rule with Not leaves just what fits out, whatever it is.
		all := rule("*", "*")
		mapsTo(t, []api.Rule{all}, c.text, c.text, false)
		want := c.text
		if c.fits {
			want = ""
		}
		mapsTo(t, []api.Rule{not(c.side), all}, c.text, want, false)
		mapsTo(t, []api.Rule{all, not(c.side)}, c.text, want, false)
		dst, target := "m", "m"
		if strings.Contains(c.side, "*") {
			dst, target = "m*n", "m"+c.middle+"n"
		}
		if !c.fits || !isGood(target) {
			target = ""
		}
		mapsTo(t, []api.Rule{rule(c.side, dst)}, c.text, target, false)
		mapsTo(t, []api.Rule{force(c.side, dst)}, c.text, target, target != "")
		if target != "" {
			unmapsTo(t, []api.Rule{rule(c.side, dst)}, target, c.text)
		}
	}
}

func TestMapNamesThatAreNone(t *testing.T) { // P14.4
	for _, name := range []string{"", "HEAD", "heads/", "/heads/a", "heads/a//b", "heads/.a", "heads/a.", "heads/-", "heads/*", "*", "a b", "a\xff", "heads/a..b", strings.Repeat("l", 256)} {
		for _, rules := range [][]api.Rule{{rule("*", "x/*")}, {rule("*", "*")}, {force(name, "x")}, {rule(name, name)}, {rule("heads/*", "*y")}, {not("z"), rule("*", "x*")}} {
			mapsTo(t, rules, name, "", false)
		}
		unmapsTo(t, []api.Rule{rule(name, "x")}, "x", "")
		clashes(t, []api.Rule{rule("*", "x*"), rule("x*", "x*")}, []string{name, name + "x", "x" + name}, "")
	}
	mapsTo(t, []api.Rule{rule("*", "*")}, strings.Repeat("l", 255), strings.Repeat("l", 255), false)
}

func TestMapLeavesOut(t *testing.T) { // P14.4: rules with Not, wherever they stand
	for i := range 4 {
		rules := slices.Insert([]api.Rule{rule("a*", "b*"), force("*", "x/*"), rule("c", "d")}, i, not("ab*"))
		mapsTo(t, rules, "ab", "", false)
		mapsTo(t, rules, "abc", "", false)
		mapsTo(t, rules, "ac", "bc", false)
		mapsTo(t, rules, "xab", "x/xab", true)
		mapsTo(t, append(rules, not("ac"), not("xab")), "ac", "", false)
		mapsTo(t, append(rules, not("ac"), not("xab")), "a", "b", false)
	}
	// What a rule with Not says beside is not looked at, and it serves no name.
	odd := api.Rule{Src: "a", Dst: "b*", Force: true, Not: true}
	mapsTo(t, []api.Rule{odd, rule("*", "*")}, "a", "", false)
	mapsTo(t, []api.Rule{odd, rule("*", "*")}, "b", "b", false)
	mapsTo(t, []api.Rule{not("*"), rule("a", "b")}, "a", "", false)
	mapsTo(t, []api.Rule{not(""), rule("a", "b")}, "a", "b", false)
	mapsTo(t, []api.Rule{{Src: "a", Dst: "b", Not: true}}, "a", "", false)
	mapsTo(t, []api.Rule{{Src: "a", Dst: "b", Not: true}}, "c", "", false)
	// It fits the name, not the target.
	mapsTo(t, []api.Rule{not("b"), rule("a", "b")}, "a", "b", false)
}

func TestMapTheFirstThatServes(t *testing.T) { // P14.4
	mapsTo(t, []api.Rule{rule("a*", "b*"), force("ab", "c")}, "ab", "bb", false)
	mapsTo(t, []api.Rule{force("ab", "c"), rule("a*", "b*")}, "ab", "c", true)
	mapsTo(t, []api.Rule{rule("ab", "c"), force("a*", "b*")}, "ab", "c", false)
	// Rules that fit and don't serve: a star on one side alone, a target that is no good name.
	last := force("*", "z/*")
	for _, odd := range []api.Rule{
		rule("a*", "b"), rule("ab", "b*"), rule("ab", "*"), rule("*", "b"),
		rule("ab", ""), rule("ab", "HEAD"), rule("ab", "/b"), rule("ab", "b/"), rule("ab", ".b"), rule("ab", "b "), rule("ab", "\xff"), rule("ab", strings.Repeat("l", 256)), rule("ab", strings.Repeat("l", 1<<20)),
		rule("ab*", "*"), rule("a*", "-*/"), rule("a*", "/*"), rule("a*", "*/"), rule("a*", "*."), rule("a*", ".*"), rule("a*", "-*"), rule("a*", "x..*"), rule("a*", "x.*.*"), rule("a*", "**"), rule("a*", "*\xff"), rule("a*", strings.Repeat("l", 255)+"*"), rule("a*", "*"+strings.Repeat("l", 1<<20)),
		rule("ab*", "HEAD*"), rule("ab*", "x/*"), rule("ab*", "x.*"), rule("ab*", "*HEAD"), rule("ab*", "HE*AD"), rule("ab*", "x//*y"), rule("ab*", "x/*/y"),
		rule("", "b"), rule("*ab*", "b*"), rule("a**", "b*"), rule(strings.Repeat("a", 1<<20), "b"), rule("ab"+strings.Repeat("*", 1<<20), "b*"),
	} {
		mapsTo(t, []api.Rule{odd}, "ab", "", false)
		mapsTo(t, []api.Rule{odd, last}, "ab", "z/ab", true)
		mapsTo(t, []api.Rule{last, odd}, "ab", "z/ab", true)
		clashes(t, []api.Rule{odd}, []string{"ab", "abab"}, "")
	}
	// Sides that are good names only by what the star stands for, and some that ParseRules would not tell.
	mapsTo(t, []api.Rule{rule("a*", "x/*")}, "ab", "x/b", false)
	mapsTo(t, []api.Rule{rule("a*", "x/*")}, "a/b", "", false)
	mapsTo(t, []api.Rule{rule("a*", "x*")}, "a/b", "x/b", false)
	mapsTo(t, []api.Rule{rule("a*", "x*")}, "a.", "", false)
	mapsTo(t, []api.Rule{rule("a*", "x*y")}, "a/b", "x/by", false)
	mapsTo(t, []api.Rule{rule("a*", "*")}, "a.b", "", false)
	mapsTo(t, []api.Rule{rule("a*", "*")}, "aHEAD", "", false)
	mapsTo(t, []api.Rule{rule("a*", "*")}, "a/b", "", false)
	mapsTo(t, []api.Rule{rule("a*c", "*/c")}, "abc", "b/c", false)
	mapsTo(t, []api.Rule{rule("/*", "x*")}, "a", "", false)
	mapsTo(t, []api.Rule{rule("*/", "x*")}, "a", "", false)
	mapsTo(t, []api.Rule{rule(".*", "x*"), rule("*", "y*")}, "a", "ya", false)
	mapsTo(t, []api.Rule{rule("a*", "x.*")}, "ab", "x.b", false)
	mapsTo(t, []api.Rule{rule("a\xc3*", "x\xc3*")}, "aé", "xé", false)
	mapsTo(t, []api.Rule{rule("a\xc3*", "x*")}, "aé", "", false)
	mapsTo(t, []api.Rule{rule("*a", "*"+strings.Repeat("l", 250))}, "12345a", "12345"+strings.Repeat("l", 250), false)
	mapsTo(t, []api.Rule{rule("*a", "*"+strings.Repeat("l", 250))}, "123456a", "", false)
	mapsTo(t, []api.Rule{rule("a", strings.Repeat("l", 255))}, "a", strings.Repeat("l", 255), false)
	mapsTo(t, []api.Rule{rule(strings.Repeat("l", 255), "a")}, strings.Repeat("l", 255), "a", false)
	mapsTo(t, []api.Rule{rule(strings.Repeat("l", 255)+"*", "a*b")}, strings.Repeat("l", 255), "ab", false)
	mapsTo(t, slices.Concat(slices.Repeat([]api.Rule{rule("b", "c")}, 1000), []api.Rule{force("a", "d")}), "a", "d", true)
}

func TestUnmapExamples(t *testing.T) { // P14.5
	unmapsTo(t, three(), "far/x/a", "heads/a")
	unmapsTo(t, three(), "far/x/tmp", "")
	unmapsTo(t, three(), "heads/a", "")
	unmapsTo(t, three(), "tags/v", "tags/v")
	unmapsTo(t, nil, "a", "")
	unmapsTo(t, []api.Rule{}, "a", "")
}

func TestUnmapTheFirstThatGives(t *testing.T) { // P14.5
	// The first rule's name is made another target by a rule ahead, so a later rule's counts.
	unmapsTo(t, []api.Rule{rule("a", "x"), rule("a", "y"), rule("b", "y")}, "y", "b")
	unmapsTo(t, []api.Rule{rule("a", "x"), rule("a", "y")}, "y", "")
	// It may be another rule by which Map makes the name the target.
	unmapsTo(t, []api.Rule{rule("a*", "x*"), rule("ab", "xb")}, "xb", "ab")
	unmapsTo(t, []api.Rule{rule("*b", "*y"), rule("a*", "*y"), rule("ab", "by")}, "by", "bb")
	unmapsTo(t, []api.Rule{force("ab", "xb"), rule("a*", "x*")}, "xb", "ab")
	// The first rule for which there is one, whatever the names.
	unmapsTo(t, []api.Rule{rule("z", "x"), rule("a", "x")}, "x", "z")
	unmapsTo(t, []api.Rule{force("a", "x"), rule("z", "x")}, "x", "a")
	// Names that are left out, ahead and behind, and rules with Not, which give none.
	unmapsTo(t, []api.Rule{rule("a", "x"), rule("b", "x"), not("a")}, "x", "b")
	unmapsTo(t, []api.Rule{not("*"), rule("a", "x")}, "x", "")
	unmapsTo(t, []api.Rule{{Src: "a", Dst: "x", Not: true}, rule("b", "x")}, "x", "b")
	unmapsTo(t, []api.Rule{{Src: "a", Dst: "x", Not: true}}, "x", "")
	unmapsTo(t, []api.Rule{{Src: "a", Dst: "x", Not: true}, rule("a", "x")}, "x", "")
	unmapsTo(t, []api.Rule{{Src: "b", Dst: "x", Not: true}, rule("a", "x")}, "x", "a")
	// Sides with a star on one side alone, names that are no good names.
	unmapsTo(t, []api.Rule{rule("a*", "x")}, "x", "")
	unmapsTo(t, []api.Rule{rule("a", "x*")}, "x", "")
	unmapsTo(t, []api.Rule{rule("a*", "x"), rule("b", "x*"), rule("c", "x")}, "x", "c")
	for _, src := range []string{"", "HEAD", "/a", "a/", ".a", "a b", "\xff", strings.Repeat("l", 256), strings.Repeat("l", 1<<20)} {
		unmapsTo(t, []api.Rule{rule(src, "x")}, "x", "")
		unmapsTo(t, []api.Rule{rule(src, "x"), rule("c", "x")}, "x", "c")
	}
	unmapsTo(t, []api.Rule{rule("*", "x*")}, "x", "")
	unmapsTo(t, []api.Rule{rule("*", "x*")}, "xHEAD", "")
	unmapsTo(t, []api.Rule{rule("*", "x*")}, "x/a", "")
	unmapsTo(t, []api.Rule{rule("*", "x*")}, "xa/b", "a/b")
	unmapsTo(t, []api.Rule{rule("a/*", "*")}, "b", "a/b")
	unmapsTo(t, []api.Rule{rule("a.*", "x*")}, "x.b", "")
	// Targets that are no good names are nobody's; nor is one that has only the same middle.
	for _, target := range []string{"", "HEAD", "/a", "a/", "a b", "\xff", "*", "x/*", "a//b", strings.Repeat("l", 256), strings.Repeat("l", 1<<20)} {
		unmapsTo(t, []api.Rule{rule("*", "*"), rule("a*", "*"), rule("x*", "x*"), rule("b", target), rule("b*", target+"*")}, target, "")
	}
	unmapsTo(t, []api.Rule{rule("*"+strings.Repeat("l", 250), "*")}, "12345", "12345"+strings.Repeat("l", 250))
	unmapsTo(t, []api.Rule{rule("*"+strings.Repeat("l", 250), "*")}, "123456", "")
}

func TestClashExamples(t *testing.T) { // P14.6
	two := []api.Rule{rule("heads/*", "x/*"), rule("tags/*", "x/*")}
	clashes(t, two, []string{"heads/a", "tags/b", "tags/a", "tags/a"}, "x/a")
	clashes(t, two, []string{"heads/a", "tags/b", "tags/b", "heads/a", "heads/a"}, "")
	clashes(t, two, nil, "")
	clashes(t, two, []string{}, "")
	clashes(t, nil, []string{"heads/a", "tags/a"}, "")
	// The least of several, wherever its names stand, of two and of more names.
	clashes(t, two, []string{"tags/b", "heads/b", "heads/a", "tags/c", "tags/a", "heads/c"}, "x/a")
	clashes(t, two, []string{"tags/b", "heads/a", "heads/b"}, "x/b")
	clashes(t, two, []string{"heads/é", "tags/é", "heads/z", "tags/z"}, "x/z")
	clashes(t, two, []string{"heads/a/b", "tags/a/b", "heads/a.b", "tags/a.b", "tags/ab", "heads/ab"}, "x/a.b")
	all := append(two, rule("far/*", "x/*"), rule("b", "x/a"))
	clashes(t, all, []string{"far/a", "b", "tags/a", "heads/a", "tags/a", "b"}, "x/a")
	clashes(t, all, []string{"far/a", "b"}, "x/a")
	clashes(t, all, []string{"b", "b", "b"}, "")
	// Names that become nothing do not count, nor those that are left out.
	clashes(t, append(two, not("tags/a")), []string{"heads/a", "tags/a"}, "")
	clashes(t, two, []string{"", "", "HEAD", "HEAD", "other", "other", "x/a", "heads/a", "heads/", "tags/", "tags//a"}, "")
	// A target that is a name of the list, too.
	clashes(t, []api.Rule{rule("a", "b")}, []string{"a", "b"}, "")
	clashes(t, []api.Rule{rule("a", "b"), rule("*", "*")}, []string{"a", "b"}, "b")
	clashes(t, []api.Rule{rule("a", "b"), force("*", "*")}, []string{"b", "c", "a"}, "b")
}

// modelMiddle tells the middle of a text that fits a side.
func modelMiddle(side, text string) (string, bool) {
	ahead, behind, star := strings.Cut(side, "*")
	if !star {
		return "", side == text
	}
	for i := range len(text) + 1 {
		for j := i; j <= len(text); j++ {
			if text[:i] == ahead && text[j:] == behind {
				return text[i:j], true
			}
		}
	}
	return "", false
}

func hasBothOrNone(r api.Rule) bool {
	return strings.Contains(r.Src, "*") == strings.Contains(r.Dst, "*")
}

func modelMap(rules []api.Rule, name string) (string, bool, bool) {
	if !isGood(name) {
		return "", false, false
	}
	for _, r := range rules {
		if _, fits := modelMiddle(r.Src, name); fits && r.Not {
			return "", false, false
		}
	}
	for _, r := range rules {
		between, fits := modelMiddle(r.Src, name)
		if target := strings.Replace(r.Dst, "*", between, 1); fits && !r.Not && hasBothOrNone(r) && isGood(target) {
			return target, r.Force, true
		}
	}
	return "", false, false
}

func modelUnmap(rules []api.Rule, target string) (string, bool) {
	for _, r := range rules {
		between, fits := modelMiddle(r.Dst, target)
		name := strings.Replace(r.Src, "*", between, 1)
		if told, _, ok := modelMap(rules, name); fits && !r.Not && hasBothOrNone(r) && ok && told == target {
			return name, true
		}
	}
	return "", false
}

func modelClash(rules []api.Rule, names []string) string {
	from := map[string]map[string]bool{}
	for _, name := range names {
		if target, _, ok := modelMap(rules, name); ok {
			if from[target] == nil {
				from[target] = map[string]bool{}
			}
			from[target][name] = true
		}
	}
	maps.DeleteFunc(from, func(_ string, names map[string]bool) bool { return len(names) < 2 })
	if len(from) == 0 {
		return ""
	}
	return slices.Min(slices.Collect(maps.Keys(from)))
}

func TestMapsAgainstTheModel(t *testing.T) { // P14.3 to P14.6
	r := rand.New(rand.NewSource(3))
	seen := map[string]int{}
	piece := func() string {
		return []string{"", "", "", "", "", "", "", "", "a", "a", "b", "b", "a/", "/b", "é", "\xc3", "\xa9", "."}[r.Intn(18)]
	}
	side := func(star string) string {
		if r.Intn(8) == 0 {
			star = drawName(r, "a", "*", "b", "/")
		}
		return piece() + star + piece()
	}
	name := func() string { return piece() + []string{"a", "b", "ab", "ba", "aa"}[r.Intn(5)] + piece() }
	for range 50000 {
		var rules []api.Rule
		for range r.Intn(5) {
			star := []string{"*", "*", "a", "b"}[r.Intn(4)]
			one := api.Rule{Src: side(star), Dst: side(star), Force: r.Intn(3) == 0, Not: r.Intn(8) == 0}
			if r.Intn(2) == 0 { // the kind that often brings names together
				one.Src, one.Dst = []string{"a*", "b*", "*a", "*b"}[r.Intn(4)], "*"
			}
			rules = append(rules, one)
		}
		var names []string
		for range r.Intn(8) {
			names = append(names, name())
		}
		for _, name := range names {
			target, forced, ok := modelMap(rules, name)
			mapsTo(t, rules, name, target, forced)
			from, unmapped := modelUnmap(rules, name)
			unmapsTo(t, rules, name, from)
			from, _ = modelUnmap(rules, target)
			unmapsTo(t, rules, target, from)
			seen[fmt.Sprint("mapped ", ok)]++
			seen[fmt.Sprint("unmapped ", unmapped)]++
		}
		target := modelClash(rules, names)
		clashes(t, rules, names, target)
		seen[fmt.Sprint("clash ", target != "")]++
	}
	for _, what := range []string{"mapped", "unmapped", "clash"} {
		if seen[what+" true"] < 250 || seen[what+" false"] < 250 {
			t.Errorf("few of a kind are drawn: %v", seen)
		}
	}
}
