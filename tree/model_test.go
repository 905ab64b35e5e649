package tree

import (
	"bytes"
	"fmt"
	"math/rand"
	"slices"
	"sort"
	"strings"
	"testing"
	"unicode/utf8"

	"satchel/api"
	"satchel/digest"
)

// The model tells the chapter's words in the plainest way, by calls that call themselves, whatever time that takes.

func modelName(name string) bool {
	for _, b := range []byte(name) {
		if b < 32 || b == 127 || b == '/' {
			return false
		}
	}
	return len(name) >= 1 && len(name) <= 255 && utf8.ValidString(name) && name != "." && name != ".."
}

func modelPath(path string) bool {
	list := strings.Split(path, "/")
	return len(path) <= 1024 && len(list) <= 32 && !slices.ContainsFunc(list, func(name string) bool { return !modelName(name) })
}

func isFolderOf(folder, path string) bool { return strings.HasPrefix(path, folder+"/") }

// modelFault tells the first error of a set of files, all of them.
func modelFault(files []api.File) api.Errno {
	if len(files) > 4096 {
		return api.ErrTreeMany
	}
	faults := map[api.Errno]bool{}
	for i, f := range files {
		faults[api.ErrTreePath] = faults[api.ErrTreePath] || !modelPath(f.Path)
		faults[api.ErrTreeMode] = faults[api.ErrTreeMode] || !slices.Contains([]int{1, 2, 3}, f.Mode)
		for j, g := range files {
			faults[api.ErrTreeTwice] = faults[api.ErrTreeTwice] || i != j && f.Path == g.Path
			faults[api.ErrTreeClash] = faults[api.ErrTreeClash] || isFolderOf(f.Path, g.Path)
		}
	}
	for _, e := range []api.Errno{api.ErrTreePath, api.ErrTreeMode, api.ErrTreeTwice, api.ErrTreeClash} {
		if faults[e] {
			return e
		}
	}
	for _, enc := range modelTrees(files) {
		if len(enc) > 65536 || len(enc) == 0 {
			return api.ErrTreeMany
		}
	}
	return api.OK
}

// modelTrees tells the encodings of a set's tree, the root's first; one with too many entries as no bytes.
func modelTrees(files []api.File) [][]byte {
	beneath := map[string][]api.File{}
	rows := map[string]api.Entry{}
	for _, f := range files {
		name, rest, isFolder := strings.Cut(f.Path, "/")
		if !isFolder {
			rows[name] = api.Entry{Mode: f.Mode, Name: name, ID: f.ID}
			continue
		}
		beneath[name] = append(beneath[name], api.File{Path: rest, Mode: f.Mode, ID: f.ID})
	}
	var list [][]byte
	for name, rest := range beneath {
		trees := modelTrees(rest)
		rows[name] = folder(name, digest.Sum(trees[0]))
		list = append(list, trees...)
	}
	return append([][]byte{modelEncoding(rows)}, list...)
}

func modelEncoding(rows map[string]api.Entry) []byte {
	if len(rows) > 1024 {
		return nil
	}
	var sortedNames []string
	for name := range rows {
		sortedNames = append(sortedNames, name)
	}
	sort.Strings(sortedNames)
	enc := append([]byte{2}, modelVar(len(rows))...)
	for _, name := range sortedNames {
		enc = append(append(append(enc, byte(rows[name].Mode)), modelVar(len(name))...), name...)
		id := rows[name].ID
		enc = append(enc, id[:]...)
	}
	return enc
}

func modelVar(n int) []byte {
	if n < 128 {
		return []byte{byte(n)}
	}
	return []byte{byte(n) | 128, byte(n >> 7)}
}

// modelBuild tells what Build is to answer.
func modelBuild(files []api.File) (api.ID, [][]byte, api.Errno) {
	if e := modelFault(files); e != api.OK {
		return api.ID{}, nil, e
	}
	trees := modelTrees(files)
	var list [][]byte
	for _, enc := range trees {
		if !slices.ContainsFunc(list, func(other []byte) bool { return bytes.Equal(enc, other) }) {
			list = append(list, enc)
		}
	}
	sort.Slice(list, func(i, j int) bool {
		a, b := digest.Sum(list[i]), digest.Sum(list[j])
		return bytes.Compare(a[:], b[:]) < 0
	})
	return digest.Sum(trees[0]), list, api.OK
}

// modelSort tells files in the order of paths.
func modelSort(files []api.File) []api.File {
	files = slices.Clone(files)
	sort.Slice(files, func(i, j int) bool { return bytes.Compare([]byte(files[i].Path), []byte(files[j].Path)) < 0 })
	return files
}

// holding tells what there is at a path, none as the zero File.
func holding(files []api.File, path string) api.File {
	for _, f := range files {
		if f.Path == path {
			return f
		}
	}
	return api.File{}
}

// allPaths tells the paths of some sets, sorted, each once.
func allPaths(sets ...[]api.File) []string {
	var list []string
	for _, files := range sets {
		for _, f := range files {
			if !slices.Contains(list, f.Path) {
				list = append(list, f.Path)
			}
		}
	}
	sort.Strings(list)
	return list
}

func modelDiff(a, b []api.File) []api.Change {
	var list []api.Change
	for _, path := range allPaths(a, b) {
		if was, is := holding(a, path), holding(b, path); was != is {
			list = append(list, api.Change{Path: path, Old: was, New: is})
		}
	}
	return list
}

func modelJoin(files []api.File, changes []api.Change) ([]api.File, api.Errno) {
	if e := modelFault(files); e != api.OK {
		return nil, e
	}
	faults := map[api.Errno]bool{}
	outcome := slices.Clone(files)
	for i, c := range changes {
		if c.Old.Mode == api.ModeNone {
			c.Old = api.File{}
		}
		odd := c.Old.Mode != api.ModeNone && c.Old.Path != c.Path || c.New.Mode != api.ModeNone && c.New.Path != c.Path
		faults[api.ErrTreePath] = faults[api.ErrTreePath] || odd || !modelPath(c.Path)
		for j, d := range changes {
			faults[api.ErrTreeTwice] = faults[api.ErrTreeTwice] || i != j && c.Path == d.Path
		}
		faults[api.ErrTreeNone] = faults[api.ErrTreeNone] || holding(files, c.Path) != c.Old
		outcome = slices.DeleteFunc(outcome, func(f api.File) bool { return f.Path == c.Path })
		if c.New.Mode != api.ModeNone {
			outcome = append(outcome, c.New)
		}
	}
	for _, e := range []api.Errno{api.ErrTreePath, api.ErrTreeTwice, api.ErrTreeNone} {
		if faults[e] {
			return nil, e
		}
	}
	if e := modelFault(outcome); e != api.OK {
		return nil, e
	}
	return modelSort(outcome), api.OK
}

// modelMerge tells the outcome, or the conflicts.
func modelMerge(base, ours, theirs []api.File) ([]api.File, []string) {
	var outcome []api.File
	var conflicts []string
	for _, path := range allPaths(base, ours, theirs) {
		b, o, t := holding(base, path), holding(ours, path), holding(theirs, path)
		result := o
		switch {
		case t == b || t == o:
		case o == b:
			result = t
		default:
			conflicts = append(conflicts, path)
			continue
		}
		if result.Mode != api.ModeNone {
			outcome = append(outcome, result)
		}
	}
	if len(conflicts) > 0 {
		return nil, conflicts
	}
	for _, f := range outcome {
		if slices.ContainsFunc(outcome, func(g api.File) bool { return isFolderOf(f.Path, g.Path) }) {
			conflicts = append(conflicts, f.Path)
		}
	}
	return outcome, conflicts
}

// reading is a tree that is being read.
type reading struct {
	objects map[api.ID]api.Object
	met     int
	files   []api.File
}

func (r *reading) tree(id api.ID, ahead []string) api.Errno {
	o, ok := r.objects[id]
	if !ok {
		return api.ErrTreeNone
	}
	if o.Kind != api.KindTree {
		return api.ErrTreeKind
	}
	for _, entry := range o.Entries {
		path := append(slices.Clone(ahead), entry.Name)
		text := strings.Join(path, "/")
		r.met++
		if r.met > 4096 {
			return api.ErrTreeMany
		}
		if len(path) > 32 || len(text) > 1024 {
			return api.ErrTreeDeep
		}
		if entry.Mode != api.ModeTree {
			r.files = append(r.files, api.File{Path: text, Mode: entry.Mode, ID: entry.ID})
		} else if e := r.tree(entry.ID, path); e != api.OK {
			return e
		}
	}
	return api.OK
}

func modelFiles(objects map[api.ID]api.Object, root api.ID) ([]api.File, api.Errno) {
	if root == (api.ID{}) {
		return nil, api.OK
	}
	r := reading{objects: objects}
	if e := r.tree(root, nil); e != api.OK {
		return nil, e
	}
	return modelSort(r.files), api.OK
}

func modelLookup(objects map[api.ID]api.Object, root api.ID, path string) (api.ID, int, api.Errno) {
	o, ok := objects[root]
	switch {
	case path == "" && root == api.ID{}:
		return root, api.ModeTree, api.OK
	case path != "" && !modelPath(path):
		return api.ID{}, 0, api.ErrTreePath
	case !ok:
		return api.ID{}, 0, api.ErrTreeNone
	case o.Kind != api.KindTree:
		return api.ID{}, 0, api.ErrTreeKind
	case path == "":
		return root, api.ModeTree, api.OK
	}
	name, rest, more := strings.Cut(path, "/")
	i := slices.IndexFunc(o.Entries, func(entry api.Entry) bool { return entry.Name == name })
	switch {
	case i < 0 || more && o.Entries[i].Mode != api.ModeTree:
		return api.ID{}, 0, api.ErrTreeNone
	case more:
		return modelLookup(objects, o.Entries[i].ID, rest)
	}
	return o.Entries[i].ID, o.Entries[i].Mode, api.OK
}

// chance draws sets of files and stores of trees.
type chance struct {
	r   *rand.Rand
	met map[string]int
}

// path draws paths that often have beginnings in common, and signs ahead of '/' and behind it.
func (c chance) path() string {
	var list []string
	for range 1 + c.r.Intn(4) {
		list = append(list, []string{"a", "b", "a-", "a.b", "a0", "é", "ab"}[c.r.Intn(7)])
	}
	return strings.Join(list, "/")
}

// files draws a set; of odd in 100 files something may be wrong.
func (c chance) files(most, odd int) []api.File {
	var list []api.File
	for range c.r.Intn(most + 1) {
		f := api.File{Path: c.path(), Mode: 1 + c.r.Intn(3), ID: all(byte(c.r.Intn(3)))}
		wrong := c.r.Intn(100) < odd
		switch kind := c.r.Intn(3); {
		case wrong && kind == 0:
			f.Mode = []int{0, 4, -1, 5, 1 << 40}[c.r.Intn(5)]
		case wrong && kind == 2 && len(list) > 0:
			f.Path = list[c.r.Intn(len(list))].Path + []string{"", "/a"}[c.r.Intn(2)]
		case wrong && kind == 1:
			f.Path = []string{"", "/", "a/", "/a", "a//b", "..", "a/..", ".", "a\n", "\xff", names(33), long(1025)}[c.r.Intn(12)]
		case !wrong && holding(list, f.Path) != api.File{}:
			continue
		case !wrong && slices.ContainsFunc(list, func(g api.File) bool { return isFolderOf(g.Path, f.Path) || isFolderOf(f.Path, g.Path) }):
			continue
		}
		list = append(list, f)
	}
	return list
}

// near tells a set that differs from another one at some paths.
func (c chance) near(files []api.File) []api.File {
	list := slices.Clone(files)
	for i := range list {
		if c.r.Intn(4) == 0 {
			list[i].ID = all(byte(c.r.Intn(3)))
		}
	}
	list = slices.DeleteFunc(list, func(api.File) bool { return c.r.Intn(5) == 0 })
	for _, f := range c.files(3, 0) {
		isNear := func(g api.File) bool {
			return f.Path == g.Path || isFolderOf(g.Path, f.Path) || isFolderOf(f.Path, g.Path)
		}
		if !slices.ContainsFunc(list, isNear) {
			list = append(list, f)
		}
	}
	c.r.Shuffle(len(list), func(i, j int) { list[i], list[j] = list[j], list[i] })
	return list
}

// changes draws some, most of which fit.
func (c chance) changes(files []api.File) []api.Change {
	list := modelDiff(files, c.near(files))
	for i := range list {
		switch c.r.Intn(60) {
		case 0:
			list[i].Path += "/"
		case 1:
			list[i].Old.Path += "x"
		case 2:
			list[i].New.Path = ""
		case 3:
			list[i].Old.Mode = c.r.Intn(6)
		case 4:
			list[i].Old.ID[31]++
		case 5:
			list[i].New.Mode = c.r.Intn(6)
		case 6:
			list = append(list, list[i])
		case 7:
			list[i].Path = c.path()
		}
	}
	c.r.Shuffle(len(list), func(i, j int) { list[i], list[j] = list[j], list[i] })
	return list
}

func TestSetsAgainstTheModel(t *testing.T) { // P6.1, P6.4, P6.5, P6.6
	c := chance{rand.New(rand.NewSource(6)), map[string]int{}}
	for n := range 6000 {
		odd := []int{0, 2, 20}[n%3]
		files := c.files([]int{3, 8, 30}[n/3%3], odd)
		id, encodings, e := Build(files)
		wantID, want, wantError := modelBuild(files)
		if id != wantID || !slices.EqualFunc(encodings, want, bytes.Equal) || e != wantError {
			t.Fatalf("Build(%v): %.3x, %d encodings, %v, want %.3x, %d, %v", files, id, len(encodings), e, wantID, len(want), wantError)
		}
		changes := c.changes(files)
		outcome, wantError2 := modelJoin(files, changes)
		joined(t, fmt.Sprint(files, changes), files, changes, outcome, wantError2)
		c.met[fmt.Sprint("Build", e)]++
		c.met[fmt.Sprint("Join", wantError2)]++
		if odd == 0 {
			c.sides(t, files)
		}
	}
	c.enough(t, "Build", api.OK, api.ErrTreePath, api.ErrTreeMode, api.ErrTreeTwice, api.ErrTreeClash)
	c.enough(t, "Join", api.OK, api.ErrTreePath, api.ErrTreeMode, api.ErrTreeTwice, api.ErrTreeClash, api.ErrTreeNone)
	c.enough(t, "Merge", "an outcome", "a conflict", "folders")
}

// sides holds what is told of two and three sets against the model.
func (c chance) sides(t *testing.T, base []api.File) {
	t.Helper()
	w := newWorld(t)
	ours, theirs := c.near(base), c.near(base)
	roots := [3]api.ID{w.lay(base), w.lay(ours), w.lay(theirs)}
	what := text(base) + " / " + text(ours) + " / " + text(theirs)
	w.files(what, roots[1], modelSort(ours))
	changes := modelDiff(ours, theirs)
	w.diff(what, roots[1], roots[2], changes...)
	joined(t, what, modelSort(ours), changes, modelSort(theirs), api.OK)
	outcome, conflicts := modelMerge(base, ours, theirs)
	w.merge(what, roots, outcome, conflicts)
	switch {
	case len(conflicts) == 0:
		c.met["Mergean outcome"]++
	case len(outcome) == 0:
		c.met["Mergea conflict"]++
	default:
		c.met["Mergefolders"]++
	}
	if t.Failed() {
		t.FailNow()
	}
}

// enough asks for what must have been met: what is not met is not tested.
func (c chance) enough(t *testing.T, what string, list ...any) {
	t.Helper()
	for _, item := range list {
		if n := c.met[fmt.Sprint(what, item)]; n < 30 {
			t.Errorf("%s: %v is met %d times", what, item, n)
		}
	}
}

// plant draws a store in which any object may stand under any id, so that trees may hold themselves.
func (c chance) plant(w world) (map[api.ID]api.Object, []api.ID) {
	w.t.Helper()
	objects := map[api.ID]api.Object{}
	ids := make([]api.ID, 2+c.r.Intn([]int{8, 40}[c.r.Intn(2)]))
	for i := range ids {
		ids[i] = all(byte(i)) // the first one is all zeros
	}
	rings, whole := c.r.Intn(4) == 0, c.r.Intn(2) == 0
	for i, id := range ids {
		o := api.Object{Kind: api.KindTree}
		switch {
		case !whole && c.r.Intn(20) == 0:
			continue
		case !whole && c.r.Intn(10) == 0:
			o = api.Object{Kind: api.KindBlob, Blob: []byte{byte(i)}}
		}
		for _, name := range []string{"a", "a-", "a.b", "a0", "ab", "b"} {
			most := len(ids)
			if !rings {
				most = i
			}
			if mode := 1 + c.r.Intn(6); mode < 4 {
				o.Entries = append(o.Entries, api.Entry{Mode: mode, Name: name, ID: all(byte(c.r.Intn(255)))})
			} else if mode < 6 && most > 0 {
				least := max(0, most-1-c.r.Intn(most)) // most are of those just ahead: trees that stand high, and are great
				o.Entries = append(o.Entries, folder(name, ids[least+c.r.Intn(most-least)]))
			}
		}
		objects[id] = o
		w.plant(id, o)
	}
	return objects, ids
}

func TestStoresAgainstTheModel(t *testing.T) { // P6.2, P6.3, P6.4, P6.6, P6.7
	c := chance{rand.New(rand.NewSource(66)), map[string]int{}}
	for n := range 1200 {
		w := newWorld(t)
		objects, ids := c.plant(w)
		var roots [3]api.ID
		var sides [3][]api.File
		var errors [3]api.Errno
		for i := range roots {
			roots[i] = ids[c.r.Intn(len(ids))]
			sides[i], errors[i] = modelFiles(objects, roots[i])
			c.met[fmt.Sprint("Files", errors[i])]++
		}
		if got, e := Files(w.s, roots[0]); !slices.Equal(got, sides[0]) || e != errors[0] {
			t.Fatalf("store %d: Files: %s, %v, want %s, %v", n, text(got), e, text(sides[0]), errors[0])
		}
		for range 20 {
			path := []string{"", c.path(), c.path(), c.path() + "/", c.path() + "/" + c.path()}[c.r.Intn(5)]
			id, mode, e := modelLookup(objects, roots[1], path)
			w.lookup(roots[1], path, id, mode, e)
			c.met[fmt.Sprint("Lookup", e)]++
		}
		c.compare(w, roots, sides, errors)
		if t.Failed() {
			t.Fatalf("store %d: %+v", n, objects)
		}
	}
	c.enough(t, "Files", api.OK, api.ErrTreeNone, api.ErrTreeKind, api.ErrTreeDeep, api.ErrTreeMany)
	c.enough(t, "Lookup", api.OK, api.ErrTreePath, api.ErrTreeNone, api.ErrTreeKind)
}

// compare holds Diff and Merge against what is known of the sides.
func (c chance) compare(w world, roots [3]api.ID, sides [3][]api.File, errors [3]api.Errno) {
	w.t.Helper()
	first := func(list ...api.Errno) api.Errno {
		for _, e := range list {
			if e != api.OK {
				return e
			}
		}
		return api.OK
	}
	got, e := Diff(w.s, roots[0], roots[1])
	want := first(errors[0], errors[1])
	if e != want || want != api.OK && len(got) > 0 {
		w.t.Errorf("Diff: %v, want %v", e, want)
	}
	if want == api.OK && !slices.Equal(got, modelDiff(sides[0], sides[1])) {
		w.t.Errorf("Diff: %v", got)
	}
	if want := first(errors[:]...); want != api.OK {
		w.unmerged("by chance", roots, want)
		return
	}
	outcome, conflicts := modelMerge(sides[0], sides[1], sides[2])
	w.merge("by chance", roots, outcome, conflicts)
}
