package tree

import (
	"bytes"
	"fmt"
	"reflect"
	"slices"
	"strings"
	"testing"
	"unsafe"

	"satchel/api"
	"satchel/object"
	"satchel/store"
)

// world is a store, and what is put into it.
type world struct {
	t *testing.T
	s *store.Store
}

func newWorld(t *testing.T) world { return world{t, store.New()} }

func (w world) put(o api.Object) api.ID {
	w.t.Helper()
	id, _, e := w.s.Put(encoded(w.t, o))
	if e != api.OK {
		w.t.Fatalf("Put(%+v): %v", o, e)
	}
	return id
}

func encoded(t *testing.T, o api.Object) []byte {
	t.Helper()
	enc, e := object.Encode(o)
	if e != api.OK {
		t.Fatalf("Encode(%+v): %v", o, e)
	}
	return enc
}

// plant lays an object under an id that is not its digest, from within the store: no ids that make a ring are known.
func (w world) plant(id api.ID, o api.Object) {
	w.t.Helper()
	field := reflect.ValueOf(w.s).Elem().FieldByName("encodings")
	encodings := reflect.NewAt(field.Type(), unsafe.Pointer(field.UnsafeAddr())).Interface().(*map[api.ID][]byte)
	(*encodings)[id] = encoded(w.t, o)
}

func (w world) blob(text string) api.ID {
	w.t.Helper()
	return w.put(api.Object{Kind: api.KindBlob, Blob: []byte(text)})
}

func (w world) tree(entries ...api.Entry) api.ID {
	w.t.Helper()
	return w.put(treeOf(entries...))
}

// others tells an object of each kind but a tree.
func (w world) others() []api.ID {
	w.t.Helper()
	tree := w.tree()
	return []api.ID{
		w.blob("x"),
		w.put(api.Object{Kind: api.KindCommit, Commit: api.Commit{Tree: tree}}),
		w.put(api.Object{Kind: api.KindTag, Tag: api.Tag{Target: tree, Kind: api.KindTree, Name: "v"}}),
	}
}

// nest tells a tree with so many names in a row ahead of another one.
func (w world) nest(id api.ID, names ...string) api.ID {
	w.t.Helper()
	for _, name := range slices.Backward(names) {
		id = w.tree(folder(name, id))
	}
	return id
}

// lay puts the tree of files into the store.
func (w world) lay(files []api.File) api.ID {
	w.t.Helper()
	id, encodings, e := Build(files)
	if e != api.OK {
		w.t.Fatalf("Build(%s): %v", text(files), e)
	}
	for _, enc := range encodings {
		if _, _, e := w.s.Put(enc); e != api.OK {
			w.t.Fatalf("Put(%x): %v", enc, e)
		}
	}
	return id
}

func treeOf(entries ...api.Entry) api.Object {
	return api.Object{Kind: api.KindTree, Entries: entries}
}

func file(name string, id api.ID) api.Entry {
	return api.Entry{Mode: api.ModeFile, Name: name, ID: id}
}

func folder(name string, id api.ID) api.Entry {
	return api.Entry{Mode: api.ModeTree, Name: name, ID: id}
}

// row tells so many entries, all of one mode and id.
func row(n, mode int, id api.ID) []api.Entry {
	list := make([]api.Entry, n)
	for i := range list {
		list[i] = api.Entry{Mode: mode, Name: fmt.Sprintf("%04d", i), ID: id}
	}
	return list
}

// all tells an id whose bytes are all the same.
func all(b byte) api.ID { return api.ID(bytes.Repeat([]byte{b}, len(api.ID{}))) }

// one tells a file: "path:n" has the id of bytes n and is an ordinary file, "path:n*" one that is run, "path:n@" a link.
func one(text string) api.File {
	path, rest, _ := strings.Cut(text, ":")
	f := api.File{Path: path, Mode: api.ModeFile}
	if mode := strings.IndexAny(rest, "*@"); mode >= 0 {
		f.Mode = map[byte]int{'*': api.ModeRun, '@': api.ModeLink}[rest[mode]]
		rest = rest[:mode]
	}
	var n byte
	fmt.Sscan(rest, &n)
	f.ID = all(n)
	return f
}

func set(texts string) []api.File {
	var list []api.File
	for _, text := range strings.Fields(texts) {
		list = append(list, one(text))
	}
	return list
}

// text tells files as set takes them.
func text(files []api.File) string {
	var list []string
	for _, f := range files {
		list = append(list, fmt.Sprintf("%.40s:%d%s", f.Path, f.ID[0], []string{"?", "", "*", "@", "?"}[min(uint(f.Mode), 4)]))
	}
	return fmt.Sprintf("%.600s", strings.Join(list, " "))
}

// change tells how it goes from one file to another; no text: none.
func change(path, old, new string) api.Change {
	c := api.Change{Path: path}
	if old != "" {
		c.Old = one(path + ":" + old)
	}
	if new != "" {
		c.New = one(path + ":" + new)
	}
	return c
}

// names tells so many short names with '/' between.
func names(n int) string { return strings.Repeat("n/", n-1) + "n" }

// long tells a path of so many bytes: more than 1020, in five names.
func long(n int) string {
	name := strings.Repeat("x", api.MaxName)
	return strings.Join([]string{name, name, name, name[:n-3*api.MaxName-6], "yy"}, "/")
}

func TestHelpers(t *testing.T) {
	for _, n := range []int{1021, 1023, 1024, 1025, 1026} {
		if got := long(n); len(got) != n || strings.Count(got, "/") != 4 {
			t.Errorf("long(%d): %d bytes", n, len(got))
		}
	}
	if got := names(3); got != "n/n/n" {
		t.Errorf("names(3): %s", got)
	}
	want := []api.File{{Path: "a/b", Mode: api.ModeRun, ID: all(7)}, {Path: "c", Mode: api.ModeFile, ID: all(12)}, {Path: "d", Mode: api.ModeLink}}
	if got := set("a/b:7* c:12 d:0@"); !slices.Equal(got, want) || text(got) != "a/b:7* c:12 d:0@" {
		t.Errorf("set: %v, %s", got, text(got))
	}
}

// refused asks Build for an error.
func refused(t *testing.T, what string, files []api.File, want api.Errno) {
	t.Helper()
	if id, encodings, e := Build(files); e != want || id != (api.ID{}) || len(encodings) > 0 {
		t.Errorf("Build: %s: %.3x, %d encodings, %v, want %v", what, id, len(encodings), e, want)
	}
}

func (w world) files(what string, root api.ID, want []api.File) {
	w.t.Helper()
	if got, e := Files(w.s, root); !slices.Equal(got, want) || e != api.OK {
		w.t.Errorf("Files: %s: %s, %v, want %s", what, text(got), e, text(want))
	}
}

// unread asks all calls that read trees for an error.
func (w world) unread(what string, root api.ID, want api.Errno) {
	w.t.Helper()
	if got, e := Files(w.s, root); len(got) > 0 || e != want {
		w.t.Errorf("Files: %s: %s, %v, want %v", what, text(got), e, want)
	}
	good := w.lay(set("g:1 h/i:2"))
	for i, roots := range [][2]api.ID{{root, root}, {root, good}, {good, root}, {root, {}}, {{}, root}} {
		if got, e := Diff(w.s, roots[0], roots[1]); len(got) > 0 || e != want {
			w.t.Errorf("Diff, %d: %s: %v, %v, want %v", i, what, got, e, want)
		}
	}
	for i, roots := range [][3]api.ID{{root, good, good}, {good, root, good}, {{}, good, root}, {root, root, root}} {
		w.unmerged(fmt.Sprint(what, ", ", i), roots, want)
	}
}

func (w world) unmerged(what string, roots [3]api.ID, want api.Errno) {
	w.t.Helper()
	id, encodings, conflicts, e := Merge(w.s, roots[0], roots[1], roots[2])
	if id != (api.ID{}) || len(encodings) > 0 || len(conflicts) > 0 || e != want {
		w.t.Errorf("Merge: %s: %.3x, %d encodings, %v, %v, want %v", what, id, len(encodings), conflicts, e, want)
	}
}

func (w world) lookup(root api.ID, path string, id api.ID, mode int, want api.Errno) {
	w.t.Helper()
	if got, gotMode, e := Lookup(w.s, root, path); got != id || gotMode != mode || e != want {
		w.t.Errorf("Lookup(%.3x, %.40q): %.3x, %d, %v, want %.3x, %d, %v", root, path, got, gotMode, e, id, mode, want)
	}
}

func (w world) diff(what string, a, b api.ID, want ...api.Change) {
	w.t.Helper()
	if got, e := Diff(w.s, a, b); !slices.Equal(got, want) || e != api.OK {
		w.t.Errorf("Diff: %s: %.600v, %v, want %.600v", what, got, e, want)
	}
}

func joined(t *testing.T, what string, files []api.File, changes []api.Change, want []api.File, wantError api.Errno) {
	t.Helper()
	if got, e := Join(files, changes); !slices.Equal(got, want) || e != wantError {
		t.Errorf("Join: %s: %s, %v, want %s, %v", what, text(got), e, text(want), wantError)
	}
}

// merged has three sides merged, both ways round.
func merged(t *testing.T, base, ours, theirs, outcome, conflicts string) {
	t.Helper()
	for range 2 {
		w := newWorld(t)
		roots := [3]api.ID{w.lay(set(base)), w.lay(set(ours)), w.lay(set(theirs))}
		what := base + " / " + ours + " / " + theirs
		w.merge(what, roots, set(outcome), strings.Fields(conflicts))
		ours, theirs = theirs, ours
	}
}

// merge asks for the tree of files, or for conflicts.
func (w world) merge(what string, roots [3]api.ID, files []api.File, want []string) {
	w.t.Helper()
	wantID, wantEncodings := api.ID{}, [][]byte(nil)
	if len(want) == 0 {
		wantID, wantEncodings, _ = Build(files)
	}
	id, encodings, conflicts, e := Merge(w.s, roots[0], roots[1], roots[2])
	if id != wantID || !slices.EqualFunc(encodings, wantEncodings, bytes.Equal) || !slices.Equal(conflicts, want) || e != api.OK {
		w.t.Errorf("Merge: %s: %.3x, %d encodings, conflicts %.300q, %v, want %.3x and %.300q", what, id, len(encodings), conflicts, e, wantID, want)
	}
}

// contents tells all that a store holds.
func (w world) contents() map[api.ID]string {
	list := map[api.ID]string{}
	for id, enc := range w.s.All() {
		list[id] = string(enc)
	}
	return list
}
