package refs

import (
	"math/rand"
	"regexp"
	"slices"
	"strings"
	"testing"

	"satchel/api"
)

func rule(src, dst string) api.Rule { return api.Rule{Src: src, Dst: dst} }

func force(src, dst string) api.Rule { return api.Rule{Src: src, Dst: dst, Force: true} }

func not(src string) api.Rule { return api.Rule{Src: src, Not: true} }

// parses looks whether a text is just these rules; with none of them it must be refused.
func parses(t *testing.T, text string, want ...api.Rule) {
	t.Helper()
	rules, e := ParseRules(text)
	if !slices.Equal(rules, want) || e != api.OK {
		t.Errorf("ParseRules(%q): %v, %v, want %v", text, rules, e, want)
	}
}

func isNoRule(t *testing.T, text string) {
	t.Helper()
	if rules, e := ParseRules(text); len(rules) != 0 || e != api.ErrRefsSpec {
		t.Errorf("ParseRules(%q): %v, %v", text, rules, e)
	}
}

func TestParseRulesExamples(t *testing.T) { // P14.2
	parses(t, " heads/*:far/x/*\n+tags/*:tags/* ^heads/tmp* ", rule("heads/*", "far/x/*"), force("tags/*", "tags/*"), not("heads/tmp*"))
	for _, text := range []string{"a:b c", "a*:b", "*a*:b*", "^a:b", "+^a", ":b"} {
		isNoRule(t, text)
	}
}

func TestParseRulesBlanks(t *testing.T) { // P14.2: bytes 32 and 10, one or more, ahead and behind too
	blanks := []string{" ", "\n", "  ", " \n", "\n ", "\n\n", " \n \n\n  "}
	for _, one := range append(blanks, "") {
		parses(t, one)
		for _, two := range append(blanks, "") {
			parses(t, one+two)
			parses(t, one+"a:b"+two, rule("a", "b"))
			for _, between := range blanks {
				parses(t, one+"+é:b"+between+"^c"+two, force("é", "b"), not("c"))
			}
		}
	}
	for b := range 256 {
		sign := string([]byte{byte(b)})
		if b == ' ' || b == '\n' {
			continue
		}
		// No other byte parts words; few may stand ahead of or behind one.
		isNoRule(t, "a:b"+sign+"c:d")
		isNoRule(t, sign)
		isNoRule(t, "a:b "+sign)
		isNoRule(t, sign+" a:b")
	}
	for _, blank := range []string{"\t", "\r", "\v", "\f", "\u0085", "\u00a0", "\u2028", "\u3000"} {
		isNoRule(t, "a:b"+blank+"c:d")
		isNoRule(t, "a:b\n"+blank+"\nc:d")
		isNoRule(t, blank)
	}
	parses(t, "a:b\u00a0", rule("a", "b\u00a0")) // a rune above 127 is one like any
	isNoRule(t, "a :b")
	isNoRule(t, "a: b")
	isNoRule(t, "+ a:b")
	isNoRule(t, "^ a")
	isNoRule(t, "a:b\xe2 c:d") // a rune that is cut by a blank
	isNoRule(t, "a:b \xa0c:d")
}

func TestParseRulesNumber(t *testing.T) { // P14.2: none, 64, 65
	parses(t, "")
	want := slices.Repeat([]api.Rule{rule("a", "b")}, 64)
	parses(t, strings.Repeat("a:b ", 64), want...)
	parses(t, strings.Repeat("\na:b", 64)+"\n\n", want...)
	isNoRule(t, strings.Repeat("a:b ", 65))
	isNoRule(t, strings.Repeat("a:b ", 64)+"^c")
	isNoRule(t, strings.Repeat("a:b ", 64)+"+c:d")
	isNoRule(t, strings.Repeat("a:b ", 64)+"c")
	isNoRule(t, strings.Repeat("a:b ", 63)+"c")
	isNoRule(t, strings.Repeat("^b ", 10000))
}

func TestParseRulesForms(t *testing.T) { // P14.2: '+', '^' and ':' at every place
	parses(t, "+a:b", force("a", "b"))
	parses(t, "^a", not("a"))
	parses(t, "^a*", not("a*"))
	for _, text := range []string{"+", "^", ":", "+:", "^:", "+^", "^+", "a", "+a", "a+", "a^", "^^a", "++a:b", "+^a:b", "^+a:b", "^+a", "^a:b", "^a:", "^:a", "a:", "+a:", "+:b", ":b", "a+:b", "a:+b", "a:b+", "a^:b", "a:^b", "a:b^", "a:b:c", "a::b", ":a:b", "a:b:", "::"} {
		isNoRule(t, text)
		isNoRule(t, "a:b "+text)
		isNoRule(t, text+" a:b")
	}
}

func TestParseRulesSides(t *testing.T) { // P14.2: a side is a good name, or becomes one when its star is put as x
	l := strings.Repeat("l", 249)
	good := []string{"a", "heads/a", "é", "heads/HEAD", "a.b", "l12345" + l}
	starred := []string{"*", "a*", "*a", "a*b", "a/*", "*/a", "a/*/b", "é*", "*.a", "a.*", "*-", "a.*.b", "HEA*", "*HEAD", "HEAD*", "HE*D", "_*", "l1234*" + l, "*l1234" + l, "*/z"}
	bad := []string{"", "HEAD", "/a", "a/", "a//b", ".a", "a.", "a..b", "-a", "a!", "a~", "a\xff", "l123456" + l}
	badStarred := []string{"**", "*a*", "a**", "*/*", "/*", "*/", "a//*", "*..a", ".*", "-*", "*.", "a/-*", "*\xff", "*!", "l12345*" + l, "*/.a"}
	for _, src := range slices.Concat(good, starred) {
		parses(t, "^"+src, not(src))
		for _, dst := range slices.Concat(good, starred) {
			if strings.Contains(src, "*") == strings.Contains(dst, "*") {
				parses(t, src+":"+dst, rule(src, dst))
				parses(t, "+"+src+":"+dst, force(src, dst))
			} else {
				isNoRule(t, src+":"+dst)
				isNoRule(t, "+"+src+":"+dst)
			}
		}
	}
	for _, side := range slices.Concat(bad, badStarred) {
		isNoRule(t, "^"+side)
		for _, other := range []string{"b", "b*"} {
			isNoRule(t, side+":"+other)
			isNoRule(t, other+":"+side)
			isNoRule(t, "+"+other+":"+side)
		}
		isNoRule(t, side+":"+side)
	}
}

var (
	ruleNot  = regexp.MustCompile(`^\^([^:^+]*)$`)
	rulePair = regexp.MustCompile(`^(\+?)([^:^+]*):([^:^+]*)$`)
)

// modelRules tells rules by the chapter's words.
func modelRules(text string) ([]api.Rule, bool) {
	var rules []api.Rule
	side := func(s string) bool { return isGood(s) || isGood(strings.Replace(s, "*", "x", 1)) }
	for _, word := range strings.Split(strings.ReplaceAll(text, "\n", " "), " ") {
		if word == "" {
			continue
		}
		if m := ruleNot.FindStringSubmatch(word); m != nil && side(m[1]) {
			rules = append(rules, not(m[1]))
		} else if m := rulePair.FindStringSubmatch(word); m != nil && side(m[2]) && side(m[3]) && strings.Count(m[2], "*") == strings.Count(m[3], "*") {
			rules = append(rules, api.Rule{Src: m[2], Dst: m[3], Force: m[1] != ""})
		} else {
			return nil, false
		}
	}
	return rules, len(rules) <= 64
}

func TestParseRulesAgainstTheModel(t *testing.T) { // P14.2
	r := rand.New(rand.NewSource(2))
	taken, refused := 0, 0
	for range 100000 {
		var words []string
		for range r.Intn(4) {
			words = append(words, drawName(r, "+", "", "", "^")+drawName(r, "a", "*", "é", "/", ".")+drawName(r, "", ":", "", ":b", ":*")+drawName(r, "a", "*", "b"))
			if r.Intn(3) > 0 {
				words[len(words)-1] = []string{"a:b", "+a*:*", "^*", "heads/*:far/*", "*.a:é", "^a", "\t", "x:y:z", "\xff:a"}[r.Intn(9)]
			}
		}
		text := strings.Join(words, []string{" ", "\n", "  ", "\n ", ""}[r.Intn(5)])
		want, ok := modelRules(text)
		if !ok {
			refused++
			isNoRule(t, text)
			continue
		}
		taken++
		parses(t, text, want...)
	}
	if taken < 10000 || refused < 10000 {
		t.Errorf("%d texts were taken, %d refused", taken, refused)
	}
}
