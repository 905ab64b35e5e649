package refs

import (
	"strings"

	"satchel/api"
)

const (
	star     = "*"
	maxRules = 64
)

func isBlank(r rune) bool { return r == ' ' || r == '\n' }

// parseRule reads one word.
func parseRule(word string) (api.Rule, bool) {
	if side, not := strings.CutPrefix(word, "^"); not {
		return api.Rule{Src: side, Not: true}, isSide(side)
	}
	pair, force := strings.CutPrefix(word, "+")
	src, dst, _ := strings.Cut(pair, ":") // without a ':' dst is empty, and no side
	return api.Rule{Src: src, Dst: dst, Force: force}, isSide(src) && isSide(dst) && hasStar(src) == hasStar(dst)
}

func isSide(text string) bool {
	_, ok := fill(text, "x")
	return ok
}

func hasStar(side string) bool { return strings.Contains(side, star) }

// isLeftOut tells whether a rule with Not keeps a name from being mapped.
func isLeftOut(rules []api.Rule, name string) bool {
	for _, rule := range rules {
		if !rule.Not {
			continue
		}
		if _, fits := middle(rule.Src, name); fits {
			return true
		}
	}
	return false
}

// carry tells the good name that a text becomes that fits one side of a rule, at the other side.
func carry(from, to, text string) (string, bool) {
	between, fits := middle(from, text)
	if !fits {
		return "", false
	}
	name, ok := fill(to, between)
	if !ok || hasStar(from) != hasStar(to) {
		return "", false
	}
	return name, true
}

// middle tells what a side's star stands for in a text, and whether the text fits the side.
func middle(side, text string) (string, bool) {
	// The star may stand for nothing; a side may be of any length, and is gone through only if it is short enough.
	if len(side) > len(text)+len(star) {
		return "", false
	}
	ahead, behind, starred := strings.Cut(side, star)
	if !starred {
		return "", text == side
	}
	rest, begins := strings.CutPrefix(text, ahead)
	between, ends := strings.CutSuffix(rest, behind)
	if !begins || !ends {
		return "", false
	}
	return between, true
}

// fill tells the good name that a side is with its star put as a text; a side without a star is what it is.
func fill(side, text string) (string, bool) {
	// Looked at ahead of the copy: both may be of any length.
	if len(side)+len(text) > api.MaxName+len(star) {
		return "", false
	}
	name := strings.Replace(side, star, text, 1)
	if Check(name) != api.OK {
		return "", false
	}
	return name, true
}
