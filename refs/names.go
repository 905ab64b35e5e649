package refs

import (
	"strings"
	"unicode"
)

// headName is no ref's name: it stands for the one that is worked on.
const headName = "HEAD"

// Sets of runes.
const (
	smallLetters   = "abcdefghijklmnopqrstuvwxyz"
	capitalLetters = "ABCDEFGHIJKLMNOPQRSTUVWXYZ"
	digits         = "0123456789"
)

// isIn tells whether a rune is one of several sets.
func isIn(r rune, sets ...string) bool {
	for _, set := range sets {
		if strings.ContainsRune(set, r) {
			return true
		}
	}
	return false
}

// mayFollow tells whether a rune of a name may stand behind another one; ahead of its first rune and behind its last one a name is asked as if a '/' stood there, since parts begin and end there, too.
func mayFollow(last, r rune) bool {
	signs := "._-/"
	switch last {
	case '/':
		signs = "_"
	case '.':
		signs = "_-"
	}
	return r > unicode.MaxASCII || isIn(r, smallLetters, capitalLetters, digits, signs)
}
