package refs

import (
	"strconv"
	"strings"

	"satchel/api"
	"satchel/object"
	"satchel/store"
	"satchel/tree"
	"satchel/walk"
)

// maxNumber is the most digits of a step's number.
const maxNumber = 6

// cutBase parts a text into its base and its steps.
func cutBase(text string) (base, steps string) {
	if i := strings.IndexAny(text, "~^:"); i >= 0 {
		return text[:i], text[i:]
	}
	return text, ""
}

// isBase tells whether a base may be called so; digits of an id are a good name, too.
func isBase(base string) bool { return base == headName || Check(base) == api.OK }

// find tells the id that a base means.
func find(s *store.Store, refs []api.Ref, head, base string) (api.ID, api.Errno) {
	names := []string{base, "heads/" + base, "tags/" + base, "far/" + base}
	if base == headName {
		names = []string{head}
	}
	for _, name := range names {
		if id := target(refs, name); id != (api.ID{}) {
			return id, api.OK
		}
	}
	// The store knows itself what may be the beginning of an id; HEAD is none.
	id, e := s.Find(base)
	switch e {
	case api.OK:
		return id, api.OK
	case api.ErrStoreMany:
		return api.ID{}, api.ErrRefsMany
	}
	return api.ID{}, api.ErrRefsNone
}

// target tells what the first ref of a name means; zero: it is not there.
func target(refs []api.Ref, name string) api.ID {
	for _, ref := range refs {
		if ref.Name == name {
			return ref.ID
		}
	}
	return api.ID{}
}

// step is one step of a text.
type step struct {
	sign   byte   // '~', '^', ':', or '{' for a kind in braces
	number int    // behind '~' and '^'
	kind   int    // in braces; KindNone: any but a tag
	path   string // behind ':'
}

// areSteps tells whether a text is steps and nothing else.
func areSteps(text string) bool {
	for text != "" {
		_, rest, ok := cutStep(text)
		if !ok {
			return false
		}
		text = rest
	}
	return true
}

// cutStep takes the first step off a text that isn't empty.
func cutStep(text string) (first step, rest string, ok bool) {
	if after, braced := strings.CutPrefix(text, "^{"); braced {
		return cutKind(after)
	}
	switch first.sign = text[0]; first.sign {
	case ':':
		first.path, ok = text[1:], true
	case '~', '^':
		first.number, rest, ok = cutNumber(text[1:])
	}
	return first, rest, ok
}

// cutKind takes a kind's word and the brace behind it off a text.
func cutKind(text string) (first step, rest string, ok bool) {
	word, rest, ok := strings.Cut(text, "}")
	first.sign = '{'
	switch word {
	case "":
		first.kind = api.KindNone
	case "commit":
		first.kind = api.KindCommit
	case "tree":
		first.kind = api.KindTree
	case "blob":
		first.kind = api.KindBlob
	case "tag":
		first.kind = api.KindTag
	default:
		ok = false
	}
	return first, rest, ok
}

// cutNumber takes a number off a text; none counts as 1.
func cutNumber(text string) (number int, rest string, ok bool) {
	rest = strings.TrimLeft(text, digits)
	word := text[:len(text)-len(rest)]
	if word == "" {
		return 1, rest, true
	}
	if len(word) > maxNumber || len(word) > 1 && word[0] == '0' {
		return 0, rest, false
	}
	number, err := strconv.Atoi(word)
	return number, rest, err == nil
}

// from tells where a step leads.
func (t step) from(s *store.Store, id api.ID) (api.ID, bool) {
	switch t.sign {
	case '~':
		return back(s, id, t.number)
	case '^':
		return nthParent(s, id, t.number)
	case ':':
		return below(s, id, t.path)
	}
	return ofKind(s, id, t.kind)
}

// back goes from what an id is peeled to so many times to the first parent.
func back(s *store.Store, id api.ID, times int) (api.ID, bool) {
	id, ok := peel(s, id, api.KindCommit)
	for ; ok && times > 0; times-- {
		id, ok = parent(s, id, 1)
	}
	return id, ok
}

// nthParent tells a parent of what an id is peeled to, or that itself.
func nthParent(s *store.Store, id api.ID, n int) (api.ID, bool) {
	id, ok := peel(s, id, api.KindCommit)
	if !ok || n == 0 {
		return id, ok
	}
	return parent(s, id, n)
}

// below tells what is at a path of the tree that an id stands for.
func below(s *store.Store, id api.ID, path string) (api.ID, bool) {
	root, ok := treeOf(s, id)
	if !ok {
		return api.ID{}, false
	}
	found, _, e := tree.Lookup(s, root, path)
	return found, e == api.OK
}

// ofKind tells the object of a kind that an id stands for.
func ofKind(s *store.Store, id api.ID, kind int) (api.ID, bool) {
	switch kind {
	case api.KindTag:
		return id, isA(s, id, api.KindTag)
	case api.KindTree:
		return treeOf(s, id)
	}
	return peel(s, id, kind)
}

// treeOf tells what an id is peeled to, if that is a tree, or a commit's tree.
func treeOf(s *store.Store, id api.ID) (api.ID, bool) {
	id, ok := peel(s, id, api.KindNone)
	if !ok {
		return api.ID{}, false
	}
	if commit, is := commitOf(s, id); is {
		id = commit.Tree
	}
	return id, isA(s, id, api.KindTree)
}

// peel tells what an id is peeled to, if that is of a kind; KindNone: of any.
func peel(s *store.Store, id api.ID, kind int) (api.ID, bool) {
	id, e := walk.Peel(s, id)
	return id, e == api.OK && (kind == api.KindNone || isA(s, id, kind))
}

// parent tells a parent of a commit, from 1 on.
func parent(s *store.Store, id api.ID, n int) (api.ID, bool) {
	commit, is := commitOf(s, id)
	if !is || n > len(commit.Parents) {
		return api.ID{}, false
	}
	return commit.Parents[n-1], true
}

// commitOf tells the commit of an id, if it is there and is one.
func commitOf(s *store.Store, id api.ID) (api.Commit, bool) {
	enc, e := s.Get(id)
	if e != api.OK {
		return api.Commit{}, false
	}
	o, _ := object.Parse(enc)
	return o.Commit, o.Kind == api.KindCommit
}

func isA(s *store.Store, id api.ID, kind int) bool {
	is, e := s.Kind(id)
	return e == api.OK && is == kind
}
