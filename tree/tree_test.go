package tree

import (
	"bytes"
	"fmt"
	"go/ast"
	"go/parser"
	"go/token"
	"path/filepath"
	"runtime"
	"slices"
	"strings"
	"testing"

	"satchel/api"
	"satchel/digest"
	"satchel/object"
)

func TestExamples(t *testing.T) { // P6.1 to P6.6
	empty := []byte{2, 0}
	if id, encodings, e := Build(nil); id != digest.Sum(empty) || len(encodings) != 1 || !bytes.Equal(encodings[0], empty) || e != api.OK {
		t.Errorf("Build(none): %.3x, %x, %v", id, encodings, e)
	}
	w := newWorld(t)
	x := encoded(t, treeOf(file("x", all(1))))
	b := encoded(t, treeOf(folder("a", digest.Sum(x)), file("b", all(2))))
	root := w.lay(set("b:2 a/x:1"))
	if got, e := w.s.Get(root); !bytes.Equal(got, b) || w.s.Len() != 2 || !w.s.Has(digest.Sum(x)) || e != api.OK {
		t.Errorf("Build of a/x and b: %x, %d objects", got, w.s.Len())
	}
	for texts, want := range map[string]api.Errno{"a:1 a/b:2": api.ErrTreeClash, "a:1 a:1": api.ErrTreeTwice, "/a:1": api.ErrTreePath, "a//b:1": api.ErrTreePath, "a/.:1": api.ErrTreePath, ":1": api.ErrTreePath} {
		refused(t, texts, set(texts), want)
	}
	refused(t, "a with ModeTree", []api.File{{Path: "a", Mode: api.ModeTree}}, api.ErrTreeMode)

	w.files("the root of a/x and b", root, set("a/x:1 b:2"))
	w.files("order", w.lay(set("ab:4 a/b:3 a.b:2 a-b:1")), set("a-b:1 a.b:2 a/b:3 ab:4"))
	w.lookup(root, "a", digest.Sum(x), api.ModeTree, api.OK)
	w.lookup(root, "a/x/y", api.ID{}, api.ModeNone, api.ErrTreeNone)
	w.lookup(root, "", root, api.ModeTree, api.OK)
	w.diff("two sets", w.lay(set("a:1 b:2")), w.lay(set("b:3 c:4")), change("a", "1", ""), change("b", "2", "3"), change("c", "", "4"))
	w.diff("from all zeros", api.ID{}, root, change("a/x", "", "1"), change("b", "", "2"))

	merged(t, "a:1", "a:2", "a:1 b:3", "a:2 b:3", "")
	merged(t, "a:1", "a:2", "a:3", "", "a")
	merged(t, "a:1", "", "a:2", "", "a")
	merged(t, "a:1", "a:1 d:5", "a:1 d/e:6", "", "d")
	merged(t, "a:1", "a:2 b/c:3", "a:2 b/c:3", "a:2 b/c:3", "")
	t1 := w.tree(row(1024, api.ModeTree, w.tree())...)
	w.unread("example 7", w.tree(row(1024, api.ModeTree, t1)...), api.ErrTreeMany)
}

// paths tells texts and whether they are paths.
func paths() map[string]bool {
	list := map[string]bool{}
	for _, good := range []string{"a", "a/b", "a/b/a/b", "...", "a/.../b", ".a", "a.", "a b", " ", "é/ü", "~", "-", "a\\b", "\u0080", "a/..b", names(32), long(1024), strings.Repeat("x", 255)} {
		list[good] = true
	}
	for _, bad := range []string{"", "/", "//", "/a", "a/", "a//b", "a///b", "a/b/", "//a", ".", "..", "./a", "../a", "a/.", "a/..", "a/./b", "a/../b", "a\x00b", "a/\n", "a\x7f", "\x1f/a", "\xff", "a/\xc3", "\xc3/\xa9", names(33), names(512), names(513), long(1025), strings.Repeat("x", 256), "a/" + strings.Repeat("x", 256) + "/b", strings.Repeat("é", 128), strings.Repeat("/", 1<<20)} {
		list[bad] = false
	}
	return list
}

func TestPaths(t *testing.T) { // the chapter's words, P6.1, P6.3, P6.5
	w := newWorld(t)
	for path, good := range paths() {
		f := api.File{Path: path, Mode: api.ModeLink, ID: all(3)}
		if !good {
			refused(t, path, []api.File{f}, api.ErrTreePath)
			joined(t, path, []api.File{f}, nil, nil, api.ErrTreePath)
			joined(t, path, nil, []api.Change{{Path: path, New: f}}, nil, api.ErrTreePath)
			joined(t, path+", and nothing to do", nil, []api.Change{{Path: path}}, nil, api.ErrTreePath)
			for _, root := range []api.ID{w.lay(set("a/b:1")), all(9), w.blob("x"), {}} {
				if path != "" {
					w.lookup(root, path, api.ID{}, api.ModeNone, api.ErrTreePath)
				}
			}
			continue
		}
		root := w.lay([]api.File{f})
		w.files(path, root, []api.File{f})
		w.lookup(root, path, all(3), api.ModeLink, api.OK)
		joined(t, path, nil, []api.Change{{Path: path, New: f}}, []api.File{f}, api.OK)
		joined(t, path, []api.File{f}, []api.Change{{Path: path, Old: f}}, nil, api.OK)
		w.diff(path, api.ID{}, root, api.Change{Path: path, New: f})
		w.merge(path, [3]api.ID{{}, root, {}}, []api.File{f}, nil)
	}
}

func TestModes(t *testing.T) { // P6.1, P6.5
	for _, mode := range []int{-1 << 62, -1, 0, 1, 2, 3, 4, 5, 256, 257, 1<<32 + 1, 1 << 62} {
		f := api.File{Path: "a", Mode: mode, ID: all(1)}
		if mode >= api.ModeFile && mode <= api.ModeLink {
			w := newWorld(t)
			w.files("a mode", w.lay([]api.File{f}), []api.File{f})
			joined(t, "a mode", nil, []api.Change{{Path: "a", New: f}}, []api.File{f}, api.OK)
			continue
		}
		refused(t, fmt.Sprint("mode ", mode), []api.File{f}, api.ErrTreeMode)
		joined(t, fmt.Sprint("mode ", mode), []api.File{f}, nil, nil, api.ErrTreeMode)
		if mode != api.ModeNone {
			joined(t, fmt.Sprint("new mode ", mode), nil, []api.Change{{Path: "a", New: f}}, nil, api.ErrTreeMode)
			joined(t, fmt.Sprint("old mode ", mode), set("a:1"), []api.Change{{Path: "a", Old: f}}, nil, api.ErrTreeNone)
		}
	}
}

func TestClashes(t *testing.T) { // P6.1
	for _, texts := range []string{"a/b:1 a:1", "a:1 a/b/c/d:2", "a-b:1 a.b:1 a/b:2 a:3", "x/a/b:1 x/a/b/c:1", "x/y/a:1 x/y/a0:1 x/y/a/b:1"} {
		refused(t, texts, set(texts), api.ErrTreeClash)
	}
	refused(t, "31 folders", []api.File{one("n:1"), one(names(32) + ":2")}, api.ErrTreeClash)
	for _, texts := range []string{"a:1 a.b:1 a-/b:1 a0:1", "a/b:1 a/b0:1 a/b-/c:1", "a/a/a:1 b/a:1 aa:1", "x:1 a/x/x:1"} {
		w := newWorld(t)
		w.files(texts, w.lay(set(texts)), modelSort(set(texts)))
	}
}

// many tells so many files, at most 1000 in a folder.
func many(n int) []api.File {
	list := make([]api.File, n)
	for i := range list {
		list[i] = api.File{Path: fmt.Sprintf("%d/%d", i/1000, i), Mode: 1 + i%3, ID: all(byte(i))}
	}
	return list
}

// fat tells files of one folder, its entries with names of 255 bytes but for one of them: from 248 on this one takes just so many bytes as MaxObject leaves.
func fat(last int) []api.File {
	name := strings.Repeat("x", 255-3)
	list := []api.File{{Path: strings.Repeat("y", last), Mode: api.ModeFile}}
	for i := range 225 {
		list = append(list, api.File{Path: fmt.Sprintf("%03d", i) + name, Mode: api.ModeFile})
	}
	return list
}

// within puts files into a folder.
func within(folder string, files []api.File) []api.File {
	list := slices.Clone(files)
	for i := range list {
		list[i].Path = folder + "/" + list[i].Path
	}
	return list
}

// flat tells so many files in the root.
func flat(n int) []api.File {
	var list []api.File
	for _, entry := range row(n, api.ModeFile, all(1)) {
		list = append(list, api.File{Path: entry.Name, Mode: entry.Mode, ID: entry.ID})
	}
	return list
}

func TestLimitsOfASet(t *testing.T) { // P6.1, P6.5
	w := newWorld(t)
	for what, files := range map[string][]api.File{
		"many files": many(4091), "MaxEntries": flat(1024), "MaxEntries in a folder": within("a/b", flat(1024)), "MaxObject": fat(248), "MaxObject in a folder": within("a", fat(248)),
		"MaxEntries twice": append(within("a", flat(1024)), within("b", flat(1024))...),
	} {
		w.files(what, w.lay(files), modelSort(files))
		joined(t, what, files, nil, modelSort(files), api.OK)
	}
	if enc, e := w.s.Get(w.lay(fat(248))); len(enc) != api.MaxObject || e != api.OK {
		t.Errorf("a tree of %d bytes, %v", len(enc), e)
	}
	// MaxFiles files are a right set wherever they stand, but their folders count as well when the tree is read.
	joined(t, "MaxFiles", many(4096), nil, modelSort(many(4096)), api.OK)
	w.unread("MaxFiles files and five folders", w.lay(many(4096)), api.ErrTreeMany)
	folders := make([]api.File, 1025)
	for i := range folders {
		folders[i] = api.File{Path: fmt.Sprintf("%d/x", i), Mode: api.ModeFile}
	}
	for what, files := range map[string][]api.File{
		"a file more": many(4097), "many more": slices.Repeat(many(1), 100000), "an entry more": flat(1025), "an entry more in a folder": within("a/b", flat(1025)), "a folder more": folders,
		"a byte more": fat(249), "a byte more in a folder": within("a/b/c", fat(249)), "much more": within("a", flat(4096)),
	} {
		refused(t, what, files, api.ErrTreeMany)
		joined(t, what, files, nil, nil, api.ErrTreeMany)
	}
	f := one("zz:1")
	add := []api.Change{{Path: f.Path, New: f}}
	joined(t, "a file more", many(4095), add, modelSort(append(many(4095), f)), api.OK)
	joined(t, "a file too many", many(4096), add, nil, api.ErrTreeMany)
	joined(t, "an entry too many", flat(1024), add, nil, api.ErrTreeMany)
	joined(t, "a byte too many", fat(248), append(add, api.Change{Path: strings.Repeat("y", 248), Old: fat(248)[0]}), modelSort(append(fat(248)[1:], f)), api.OK)
	joined(t, "bytes too many", fat(248), add, nil, api.ErrTreeMany)
	joined(t, "one for another one", many(4096), append(add, api.Change{Path: "0/0", Old: many(1)[0]}), modelSort(append(many(4096)[1:], f)), api.OK)
}

// faulty has a file or more put to a set, each of which brings one error; they are in the order in which the errors count.
var faulty = []struct {
	e   api.Errno
	add []api.File
}{
	{api.ErrTreePath, []api.File{{Path: "x//y", Mode: api.ModeFile}}},
	{api.ErrTreeMode, []api.File{{Path: "m", Mode: api.ModeTree}}},
	{api.ErrTreeTwice, []api.File{{Path: "t", Mode: api.ModeFile}, {Path: "t", Mode: api.ModeFile}}},
	{api.ErrTreeClash, []api.File{{Path: "c", Mode: api.ModeFile}, {Path: "c/d", Mode: api.ModeFile}}},
	{api.ErrTreeMany, within("big", flat(1025))},
}

func TestFirstOfSeveralErrorsOfASet(t *testing.T) { // P6.1, P6.5, R4
	for bits := range 1 << len(faulty) {
		files := set("a:1 b/c:2")
		want := api.OK
		for i, f := range slices.Backward(faulty) {
			if bits>>i&1 == 1 {
				files = append(files, f.add...)
				want = f.e
			}
		}
		if want == api.OK {
			continue
		}
		for range 2 {
			refused(t, fmt.Sprintf("%05b", bits), files, want)
			joined(t, fmt.Sprintf("%05b", bits), files, []api.Change{{Path: "/"}}, nil, want)
			refused(t, fmt.Sprintf("%05b and too many files", bits), append(many(4096), files...), api.ErrTreeMany)
			slices.Reverse(files)
		}
	}
}

func TestBuildInAnyOrder(t *testing.T) { // P6.1, R9
	files := append(within("d/e", flat(40)), set("a:1 a-b/c:2* a.b:3@ a/b/c:4 a/b/d:4 ab/c:5 b/b/c:4 b/b/d:4 é:6")...)
	files[len(files)-9].Path = "a/x"
	id, want, e := Build(files)
	if e != api.OK {
		t.Fatal(e)
	}
	for n := range 30 {
		turned := append(slices.Clone(files[n:]), files[:n]...)
		slices.Reverse(turned[n:])
		if got, encodings, e := Build(turned); got != id || !slices.EqualFunc(encodings, want, bytes.Equal) || e != api.OK {
			t.Fatalf("Build, turned by %d: %.3x, %v", n, got, e)
		}
	}
	last, root := api.ID{}, 0
	for _, enc := range want {
		next := digest.Sum(enc)
		if bytes.Compare(last[:], next[:]) >= 0 || object.Kind(enc) != api.KindTree {
			t.Errorf("%.3x behind %.3x", next, last)
		}
		if last = next; next == id {
			root++
		}
	}
	// The folders a/b and b/b are alike: of root, a, a/b, a-b, ab, b, d, d/e one is told for both.
	if root != 1 || len(want) != 8 {
		t.Errorf("%d encodings, the root's %d times", len(want), root)
	}
}

// TestUnlikeTreesOfOneId has digests that tell one id of all trees, or of those with one number of entries.
func TestUnlikeTreesOfOneId(t *testing.T) { // P6.1, R7
	enc := func(entries ...api.Entry) []byte { return encoded(t, treeOf(entries...)) }
	same := func([]byte) api.ID { return all(5) }
	id, encodings, e := build(set("b/c:1 a:2"), same)
	if root := enc(file("a", all(2)), folder("b", all(5))); id != all(5) || len(encodings) != 1 || !bytes.Equal(encodings[0], root) || e != api.OK {
		t.Errorf("the root's is to be told: %.3x, %x, %v", id, encodings, e)
	}
	counted := func(b []byte) api.ID { return all(b[1]) }
	id, encodings, e = build(set("x/a:1 y/b:2 z-/c:3 z/d/e:4 zz:5"), counted)
	root := enc(folder("x", all(1)), folder("y", all(1)), folder("z", all(1)), folder("z-", all(1)), file("zz", all(5)))
	if id != all(5) || len(encodings) != 2 || !bytes.Equal(encodings[0], enc(file("a", all(1)))) || !bytes.Equal(encodings[1], root) || e != api.OK {
		t.Errorf("that of the least path is to be told: %.3x, %x, %v", id, encodings, e)
	}
	// By bytes k stands ahead of k-, and k-/d ahead of k/d/e.
	_, encodings, e = build(set("k/d/e/x:1 k/d/e/y:2 k-/d/v:3 k-/d/w:4 q:1 r:1"), counted)
	if len(encodings) != 3 || !bytes.Equal(encodings[0], enc(folder("d", all(1)))) || !bytes.Equal(encodings[1], enc(file("v", all(3)), file("w", all(4)))) || e != api.OK {
		t.Errorf("k and k-/d are to be told: %x, %v", encodings, e)
	}
}

func TestFiles(t *testing.T) { // P6.2
	w := newWorld(t)
	empty := w.tree()
	w.files("all zeros", api.ID{}, nil)
	w.files("the empty tree", empty, nil)
	w.files("no blobs need be there", w.tree(file("a", all(9)), api.Entry{Mode: api.ModeRun, Name: "b"}), set("a:9 b:0*"))
	for _, id := range w.others() {
		w.files("a file may name anything", w.tree(file("a", id)), []api.File{{Path: "a", Mode: api.ModeFile, ID: id}})
	}
	w.files("a file may name its own tree's neighbour", w.tree(file("a", empty), folder("b", empty)), []api.File{{Path: "a", Mode: api.ModeFile, ID: empty}})
	x := w.tree(file("x", all(1)), api.Entry{Mode: api.ModeLink, Name: "y", ID: all(2)})
	w.files("empty trees", w.tree(folder("a", empty), folder("b", w.nest(empty, "a", "b", "c")), folder("c", x), folder("d", empty)), set("c/x:1 c/y:2@"))
	w.files("a tree named three times", w.tree(folder("a", x), folder("a-", x), folder("b", w.tree(folder("a", x)))), set("a-/x:1 a-/y:2@ a/x:1 a/y:2@ b/a/x:1 b/a/y:2@"))
	rows := []api.Entry{folder("a", x), file("a!", all(3)), folder("a-b", x), file("a.b", all(4)), file("a0", all(5)), folder("ab", x)}
	w.files("names that order otherwise with '/'", w.tree(rows...), set("a!:3 a-b/x:1 a-b/y:2@ a.b:4 a/x:1 a/y:2@ a0:5 ab/x:1 ab/y:2@"))
	w.files("within a folder", w.nest(w.tree(rows...), "z"), set("z/a!:3 z/a-b/x:1 z/a-b/y:2@ z/a.b:4 z/a/x:1 z/a/y:2@ z/a0:5 z/ab/x:1 z/ab/y:2@"))
	w.files("sorted by bytes", w.lay(set("é:1 z:2 ~:3 Z:4 a:5 0:6")), set("0:6 Z:4 a:5 z:2 ~:3 é:1"))
}

func TestTreesThatCannotBeRead(t *testing.T) { // P6.2, P6.4, P6.6
	w := newWorld(t)
	w.unread("not there", all(9), api.ErrTreeNone)
	w.unread("a folder that is not there", w.tree(file("a", all(1)), folder("b", all(9))), api.ErrTreeNone)
	w.unread("a folder of all zeros", w.tree(folder("a", api.ID{})), api.ErrTreeNone)
	w.unread("a folder's folder", w.nest(all(9), "a", "b", "c"), api.ErrTreeNone)
	for _, id := range w.others() {
		w.unread("no tree", id, api.ErrTreeKind)
		w.unread("a folder that is no tree", w.tree(folder("a", w.tree()), folder("b", id)), api.ErrTreeKind)
		w.unread("a folder's folder that is no tree", w.nest(id, "a", "b", "c"), api.ErrTreeKind)
		w.unread("one that is not there ahead of no tree", w.tree(folder("a", all(9)), folder("b", id)), api.ErrTreeNone)
		w.unread("no tree ahead of one that is not there", w.tree(folder("a", id), folder("b", all(9))), api.ErrTreeKind)
		w.unread("what is beneath comes ahead of the next entry", w.tree(folder("a", w.nest(id, "z")), folder("a-", all(9))), api.ErrTreeKind)
	}
}

func TestDepthAndLength(t *testing.T) { // P6.2
	w := newWorld(t)
	empty := w.tree()
	deepest := strings.Split(names(32), "/")
	w.files("32 names", w.nest(w.tree(file("f", all(1))), deepest[1:]...), set(strings.Repeat("n/", 31)+"f:1"))
	w.files("32 folders", w.nest(empty, deepest...), nil)
	w.unread("33 names", w.nest(w.tree(file("f", all(1))), deepest...), api.ErrTreeDeep)
	w.unread("33 folders", w.nest(empty, append(deepest, "n")...), api.ErrTreeDeep)
	w.unread("33 names, the last is not there", w.nest(all(9), append(deepest, "n")...), api.ErrTreeDeep)
	w.unread("32 names, the last is not there", w.nest(all(9), deepest...), api.ErrTreeNone)
	w.unread("32 names, the last is no tree", w.nest(w.blob("x"), deepest...), api.ErrTreeKind)
	w.unread("too deep, ahead of one that is not there", w.tree(folder("a", w.nest(empty, deepest...)), folder("b", all(9))), api.ErrTreeDeep)
	w.unread("too deep, behind one that is not there", w.tree(folder("a", all(9)), folder("b", w.nest(empty, deepest...))), api.ErrTreeNone)

	for bytes, want := range map[int]api.Errno{1023: api.OK, 1024: api.OK, 1025: api.ErrTreeDeep, 1026: api.ErrTreeDeep} {
		list := strings.Split(long(bytes), "/")
		asFile := w.nest(w.tree(file(list[4], all(1))), list[:4]...)
		asFolder := w.nest(empty, list...)
		if want == api.OK {
			w.files("a long path", asFile, []api.File{one(long(bytes) + ":1")})
			w.files("a long path of a folder", asFolder, nil)
			continue
		}
		w.unread("a path that is too long", asFile, want)
		w.unread("a path of a folder that is too long", asFolder, want)
	}
	x := strings.Repeat("x", 255)
	w.unread("a folder of 1024 bytes and a name in it", w.nest(w.tree(file("f", all(1))), strings.Split(long(1024), "/")...), api.ErrTreeDeep)
	w.unread("five names of 255 bytes", w.nest(empty, x, x, x, x, x), api.ErrTreeDeep)
}

func TestEntriesAreCounted(t *testing.T) { // P6.2, P6.7
	w := newWorld(t)
	empty := w.tree()
	none := w.tree(row(1023, api.ModeTree, empty)...)      // 1024 with the entry that names it
	some := w.tree(row(1023, api.ModeFile, all(1))...)     // likewise
	four := row(4, api.ModeTree, none)                     // 4096
	w.files("just MaxFiles entries", w.tree(four...), nil) // empty trees count, and give no file
	w.unread("one more", w.tree(append(four, file("z", all(1)))...), api.ErrTreeMany)
	w.unread("an empty tree more", w.tree(append(four, folder("z", empty))...), api.ErrTreeMany)
	for i := range four {
		four[i].ID = some
	}
	if files, e := Files(w.s, w.tree(four...)); len(files) != 4092 || e != api.OK {
		t.Errorf("%d files, %v", len(files), e)
	}
	w.unread("one file more", w.tree(append(four, file("z", all(1)))...), api.ErrTreeMany)
	// The count comes ahead of all else that is asked of an entry, and an earlier entry ahead of it.
	w.unread("the one behind MaxFiles is not there", w.tree(append(four, folder("z", all(9)))...), api.ErrTreeMany)
	w.unread("the one behind MaxFiles is no tree", w.tree(append(four, folder("z", w.blob("x")))...), api.ErrTreeMany)
	x := strings.Repeat("x", 255)
	deep := w.nest(w.tree(file(x, all(1))), x, x, x)
	w.unread("too long among MaxFiles", w.tree(append([]api.Entry{folder("0", deep)}, four[1:]...)...), api.ErrTreeDeep)
	last := append(row(3, api.ModeTree, some), folder("3", w.tree(row(1018, api.ModeFile, all(1))...)))
	w.unread("the last of MaxFiles is too long", w.tree(append(last, folder("z", deep))...), api.ErrTreeDeep)
	last[3].ID = w.tree(row(1019, api.ModeFile, all(1))...)
	w.unread("the one behind MaxFiles is too long", w.tree(append(last, folder("z", deep))...), api.ErrTreeMany)
	w.unread("the last of MaxFiles is not there", w.tree(append(last, folder("z", w.tree(file("a", all(1)), file("b", all(1)), folder("c", all(9)))))...), api.ErrTreeNone)
}

func TestLookup(t *testing.T) { // P6.3
	w := newWorld(t)
	blob := w.blob("x")
	below := w.tree(file("x", all(1)), api.Entry{Mode: api.ModeLink, Name: "y", ID: all(2)}, folder("z", all(9)))
	root := w.tree(folder("a", below), api.Entry{Mode: api.ModeRun, Name: "a-b", ID: blob}, file("b", below), folder("k", blob), folder("zero", api.ID{}))
	for path, want := range map[string]api.Entry{
		"": folder("", root), "a": folder("", below), "a/x": file("", all(1)), "a/y": {Mode: api.ModeLink, ID: all(2)}, "a/z": folder("", all(9)),
		"a-b": {Mode: api.ModeRun, ID: blob}, "b": file("", below), "k": folder("", blob), "zero": folder("", api.ID{}),
	} {
		w.lookup(root, path, want.ID, want.Mode, api.OK)
	}
	for _, path := range []string{"c", "A", "a-", "ab", "a/c", "a/a", "x", "a/x/y", "a/x/y/z", "a/y/x", "a/z/x", "a/z/x/y", "a-b/x", "b/x", "zero/x", names(32), long(1024)} {
		w.lookup(root, path, api.ID{}, api.ModeNone, api.ErrTreeNone)
	}
	for _, path := range []string{"k/x", "k/x/y"} {
		w.lookup(root, path, api.ID{}, api.ModeNone, api.ErrTreeKind)
	}
	w.lookup(api.ID{}, "", api.ID{}, api.ModeTree, api.OK)
	w.lookup(api.ID{}, "a", api.ID{}, api.ModeNone, api.ErrTreeNone)
	w.lookup(all(9), "", api.ID{}, api.ModeNone, api.ErrTreeNone)
	w.lookup(all(9), "a", api.ID{}, api.ModeNone, api.ErrTreeNone)
	for _, id := range w.others() {
		w.lookup(id, "", api.ID{}, api.ModeNone, api.ErrTreeKind)
		w.lookup(id, "a", api.ID{}, api.ModeNone, api.ErrTreeKind)
		w.lookup(id, "a/..", api.ID{}, api.ModeNone, api.ErrTreePath)
	}
	w.lookup(w.tree(), "", w.tree(), api.ModeTree, api.OK)
	w.lookup(w.tree(), "a", api.ID{}, api.ModeNone, api.ErrTreeNone)
	// What cannot be read whole is looked up all the same.
	odd := w.tree(append([]api.Entry{folder("!", all(9)), folder("\"", blob)}, row(1000, api.ModeTree, w.tree(row(1000, api.ModeFile, all(7))...))...)...)
	w.unread("an odd tree", odd, api.ErrTreeNone)
	w.lookup(odd, "", odd, api.ModeTree, api.OK)
	w.lookup(odd, "0999/0999", all(7), api.ModeFile, api.OK)
	deep := w.nest(w.tree(file("f", all(1))), strings.Split(names(32), "/")...)
	id, mode, e := Lookup(w.s, deep, names(32))
	if id != w.tree(file("f", all(1))) || mode != api.ModeTree || e != api.OK {
		t.Errorf("Lookup of 32 names: %.3x, %d, %v", id, mode, e)
	}
	w.lookup(deep, names(32)+"/f", api.ID{}, api.ModeNone, api.ErrTreePath)
}

func TestDiff(t *testing.T) { // P6.4
	w := newWorld(t)
	a := w.lay(set("a-b:1 a.b:2 a/b:3 ab:4 d/e/f:5 d/e/g:6*"))
	w.diff("nothing", api.ID{}, api.ID{})
	w.diff("nothing and the empty tree", api.ID{}, w.tree())
	w.diff("the same", a, a)
	w.diff("all", api.ID{}, a, change("a-b", "", "1"), change("a.b", "", "2"), change("a/b", "", "3"), change("ab", "", "4"), change("d/e/f", "", "5"), change("d/e/g", "", "6*"))
	w.diff("all gone", a, w.tree(), change("a-b", "1", ""), change("a.b", "2", ""), change("a/b", "3", ""), change("ab", "4", ""), change("d/e/f", "5", ""), change("d/e/g", "6*", ""))
	w.diff("a mode", w.lay(set("a:1 b:2")), w.lay(set("a:1* b:2")), change("a", "1", "1*"))
	w.diff("an id", w.lay(set("a/x:1 b:2")), w.lay(set("a/x:3 b:2")), change("a/x", "1", "3"))
	w.diff("a file that becomes a folder", w.lay(set("a:1 b:2")), w.lay(set("a/a:1 b:2")), change("a", "1", ""), change("a/a", "", "1"))
	w.diff("a folder that becomes a file", w.lay(set("a/a:1 a-:2")), w.lay(set("a:1 a-:3")), change("a", "", "1"), change("a-", "2", "3"), change("a/a", "1", ""))
	w.diff("empty trees", w.tree(file("a", all(1)), folder("b", w.tree())), w.tree(file("a", all(1)), folder("c", w.nest(w.tree(), "d"))))
	w.diff("ids of all zeros", w.lay(set("a:0")), api.ID{}, change("a", "0", ""))

	// The first tree's error counts.
	kind, none := w.blob("x"), all(9)
	for _, roots := range [][2]api.ID{{kind, none}, {none, kind}} {
		want := map[api.ID]api.Errno{kind: api.ErrTreeKind, none: api.ErrTreeNone}[roots[0]]
		if got, e := Diff(w.s, roots[0], roots[1]); len(got) > 0 || e != want {
			t.Errorf("Diff: %v, %v, want %v", got, e, want)
		}
	}
	great, other := many(4095), within("z", many(4095))
	if got, e := Diff(w.s, w.lay(great[:4000]), w.lay(other[:4000])); len(got) != 8000 || e != api.OK || got[0].New != (api.File{}) || got[7999].Old != (api.File{}) {
		t.Errorf("Diff: %d changes, %v", len(got), e)
	}
}

func TestJoin(t *testing.T) { // P6.5
	files := set("c:3 a:1 b:2*")
	joined(t, "nothing", nil, nil, nil, api.OK)
	joined(t, "no changes", files, nil, set("a:1 b:2* c:3"), api.OK)
	joined(t, "new ones", files, []api.Change{change("d", "", "4@"), change("a-/x", "", "5")}, set("a:1 a-/x:5 b:2* c:3 d:4@"), api.OK)
	joined(t, "changed", files, []api.Change{change("b", "2*", "2"), change("a", "1", "7@")}, set("a:7@ b:2 c:3"), api.OK)
	joined(t, "gone", files, []api.Change{change("b", "2*", ""), change("a", "1", ""), change("c", "3", "")}, nil, api.OK)
	joined(t, "the same", files, []api.Change{change("a", "1", "1")}, set("a:1 b:2* c:3"), api.OK)
	joined(t, "none to none", files, []api.Change{change("q", "", ""), change("a/b", "", "")}, set("a:1 b:2* c:3"), api.OK)
	joined(t, "a file that becomes a folder", files, []api.Change{change("a/b/c", "", "1"), change("a", "1", "")}, set("a/b/c:1 b:2* c:3"), api.OK)
	joined(t, "a folder that becomes a file", set("a/b:1 a/c:2"), []api.Change{change("a", "", "1"), change("a/b", "1", ""), change("a/c", "2", "")}, set("a:1"), api.OK)
	joined(t, "a folder that stays", set("a/b:1 a/c:2"), []api.Change{change("a", "", "1"), change("a/b", "1", "")}, nil, api.ErrTreeClash)

	// What stands for none may say anything else.
	noise := api.File{Path: "elsewhere", ID: all(8)}
	joined(t, "none that says more", files, []api.Change{{Path: "d", Old: noise, New: one("d:4")}, {Path: "a", Old: one("a:1"), New: noise}, {Path: "q", Old: noise, New: noise}}, set("b:2* c:3 d:4"), api.OK)
	joined(t, "none that says what is there", files, []api.Change{{Path: "a", Old: api.File{Path: "a", ID: all(1)}, New: one("a:4")}}, nil, api.ErrTreeNone)

	for what, c := range map[string]api.Change{
		"nothing there": change("d", "4", "5"), "something there": change("a", "", "5"), "another id": change("a", "2", "5"), "another mode": change("a", "1*", "5"),
		"none to none, something there": change("a", "", ""), "a folder's path": change("c/d", "3", ""), "an id of zeros": change("a", "0", ""),
	} {
		joined(t, what, files, []api.Change{change("b", "2*", ""), c}, nil, api.ErrTreeNone)
		joined(t, what, files, []api.Change{c, change("b", "2*", "")}, nil, api.ErrTreeNone)
	}
	for what, c := range map[string]api.Change{
		"Old elsewhere": {Path: "a", Old: one("b:2*")}, "New elsewhere": {Path: "d", New: one("e:1")}, "Old without a path": {Path: "a", Old: api.File{Mode: api.ModeFile, ID: all(1)}}, "New without a path": {Path: "d", New: api.File{Mode: api.ModeFile}},
		"Old of no mode elsewhere": {Path: "a", Old: api.File{Path: "b", Mode: 77}}, "New of no mode elsewhere": {Path: "d", New: api.File{Path: "e", Mode: -1}}, "no path": {}, "no path, the same in all": {Path: "..", New: one("..:1")},
	} {
		joined(t, what, files, []api.Change{change("b", "2*", ""), c}, nil, api.ErrTreePath)
		joined(t, what, files, []api.Change{c}, nil, api.ErrTreePath)
	}
	twice := []api.Change{change("b", "2*", ""), change("a", "1", "2"), change("b", "2*", "")}
	joined(t, "one path twice", files, twice, nil, api.ErrTreeTwice)
	joined(t, "one path twice, nothing to do", files, []api.Change{change("q", "", ""), change("q", "", "")}, nil, api.ErrTreeTwice)
	joined(t, "made and changed", files, []api.Change{change("q", "", "1"), change("q", "1", "2")}, nil, api.ErrTreeTwice)
}

func TestFirstOfSeveralErrorsOfChanges(t *testing.T) { // P6.5, R4
	files := append(many(4090), set("a:1 b:2")...)
	var more []api.Change
	for _, f := range within("more", flat(5)) {
		more = append(more, api.Change{Path: f.Path, New: f})
	}
	rows := []struct {
		e   api.Errno
		add []api.Change
	}{
		{api.ErrTreePath, []api.Change{{Path: "x", New: one("y:1")}}},
		{api.ErrTreeTwice, []api.Change{change("q", "", ""), change("q", "", "")}},
		{api.ErrTreeNone, []api.Change{change("b", "3", "4")}},
		{api.ErrTreeMany, more},
		{api.ErrTreeMode, []api.Change{{Path: "m", New: api.File{Path: "m", Mode: api.ModeTree}}}},
		{api.ErrTreeClash, []api.Change{change("a/b", "", "1")}},
	}
	for bits := 1; bits < 1<<len(rows); bits++ {
		var changes []api.Change
		want := api.OK
		for i, r := range slices.Backward(rows) {
			if bits>>i&1 == 1 {
				changes = append(changes, r.add...)
				want = r.e
			}
		}
		for range 2 {
			joined(t, fmt.Sprintf("%06b", bits), files, changes, nil, want)
			joined(t, fmt.Sprintf("%06b and a wrong set", bits), set("a:1 b:2 b/c:1"), changes, nil, api.ErrTreeClash)
			slices.Reverse(changes)
		}
	}
	joined(t, "an outcome with a wrong mode and a folder that is too great", flat(1024), []api.Change{change("x", "", "1"), {Path: "m", New: api.File{Path: "m", Mode: 9}}}, nil, api.ErrTreeMode)
	joined(t, "an outcome with a clash and a folder that is too great", flat(1024), []api.Change{change("x", "", "1"), change("0001/x", "", "1")}, nil, api.ErrTreeClash)
	great := make([]api.Change, 100000)
	for i := range great {
		great[i].Path = fmt.Sprint(i)
	}
	joined(t, "more changes than files may be, and nothing to do", set("a:1"), great, set("a:1"), api.OK)
	great[99999].New = one("99999:1")
	joined(t, "more changes than files may be, and one to do", set("a:1"), great, set("99999:1 a:1"), api.OK)
	for i := range great {
		great[i].New = api.File{Path: great[i].Path, Mode: 9}
	}
	joined(t, "more new files than may be", set("a:1"), great, nil, api.ErrTreeMany)
}

func TestMerge(t *testing.T) { // P6.6
	merged(t, "", "", "", "", "")
	merged(t, "a:1 b:2", "a:1 b:2", "a:1 b:2", "a:1 b:2", "")
	merged(t, "a:1", "a:1", "", "", "")
	merged(t, "a:1", "", "", "", "")
	merged(t, "", "a:1", "", "a:1", "")
	merged(t, "", "a:1", "b:2", "a:1 b:2", "")
	merged(t, "", "a:1", "a:1", "a:1", "")
	merged(t, "", "a:1", "a:2", "", "a")
	merged(t, "", "a:1", "a:1*", "", "a")
	merged(t, "a:1", "a:1*", "a:1", "a:1*", "")
	merged(t, "a:1", "a:1*", "a:2", "", "a")
	merged(t, "a:1", "a:1*", "a:1*", "a:1*", "")
	merged(t, "a:0", "", "a:0", "", "")
	merged(t, "a:1 b:2 c/d:3", "b:2 c/d:3", "a:1 b:2 c/d:4", "b:2 c/d:4", "")
	merged(t, "a:1 b:1 c:1", "a:2 b:2", "a:3 b:3", "", "a b")
	merged(t, "a-b:1 a.b:1 a/b:1 ab:1", "a-b:2 a.b:2 a/b:2 ab:2", "a-b:3 a.b:3 a/b:3 ab:3", "", "a-b a.b a/b ab")
	merged(t, "a/b:1 c:1", "a/b:2 c:1", "a/b:3 c:2", "", "a/b")

	// A file at one side, its folder at the other one.
	merged(t, "d:1", "d:1", "d/e:2", "d/e:2", "")
	merged(t, "d/e:1", "d:2", "d/e:1", "d:2", "")
	merged(t, "d/e:1", "d:2", "d/e:1 d/f:3", "", "d")
	merged(t, "d/e:1", "d:2", "d/e:3", "", "d/e")
	merged(t, "", "d:1 e:2 f:3", "d/x/y/z:1 e/x:2 d-:3 f.x:4", "", "d e")
	merged(t, "", "d/e:1 a:1", "d/e/f:2 d/e-:3 a/b/c:1", "", "a d/e")
	// Where there are conflicts of the first kind those of the second are not told.
	merged(t, "", "d:1 a:1", "d/e:1 a:2", "", "a")
	merged(t, "", "d:1 z:1", "d/e:1 z:2", "", "z")

	w := newWorld(t)
	a := w.lay(set("a:1"))
	w.merge("all zeros", [3]api.ID{}, nil, nil)
	w.merge("all zeros and the empty tree", [3]api.ID{{}, w.tree(), {}}, nil, nil)
	w.merge("all zeros for a base", [3]api.ID{{}, a, {}}, set("a:1"), nil)
	w.merge("empty trees are left out", [3]api.ID{{}, w.tree(folder("e", w.tree()), file("f", all(1))), a}, set("a:1 f:1"), nil)
	w.merge("a file and an empty tree", [3]api.ID{{}, w.tree(folder("a", w.tree())), a}, set("a:1"), nil)
}

func TestErrorsOfMerge(t *testing.T) { // P6.6, R4
	w := newWorld(t)
	kind, none, deep := w.blob("x"), all(9), w.nest(w.tree(), strings.Split(names(33), "/")...)
	errors := map[api.ID]api.Errno{kind: api.ErrTreeKind, none: api.ErrTreeNone, deep: api.ErrTreeDeep, {}: api.OK, w.lay(set("a:1")): api.OK, w.lay(set("a:2")): api.OK}
	for base, first := range errors {
		for ours, second := range errors {
			for theirs, third := range errors {
				want := []api.Errno{first, second, third}
				if i := slices.IndexFunc(want, func(e api.Errno) bool { return e != api.OK }); i >= 0 {
					w.unmerged(fmt.Sprint(want), [3]api.ID{base, ours, theirs}, want[i])
				}
			}
		}
	}
	ours, theirs := w.lay(many(2000)), w.lay(within("z", many(2096)))
	w.merge("just MaxFiles", [3]api.ID{{}, ours, theirs}, append(many(2000), within("z", many(2096))...), nil)
	more := w.lay(within("z", many(2097)))
	w.unmerged("one more", [3]api.ID{{}, ours, more}, api.ErrTreeMany)
	w.merge("one more, and conflicts", [3]api.ID{{}, ours, w.lay(append(within("z", many(2097)), one("0/0:77")))}, nil, []string{"0/0"})
	w.merge("one more, and a folder", [3]api.ID{{}, w.lay(append(many(2000), one("y:1"))), w.lay(append(within("z", many(2096)), one("y/y:77")))}, nil, []string{"y"})
	w.unmerged("a folder that is too great", [3]api.ID{{}, w.lay(flat(1024)), w.lay(set("x:1"))}, api.ErrTreeMany)
	w.unmerged("a tree that is too long", [3]api.ID{{}, w.lay(fat(248)), w.lay(set("x:1"))}, api.ErrTreeMany)
	full := append(flat(1022), one("x:1"), one("y:2"))
	w.merge("just MaxEntries", [3]api.ID{w.lay(flat(1023)), w.lay(append(flat(1023), one("x:1"))), w.lay(append(flat(1022), one("y:2")))}, full, nil)
}

func TestRings(t *testing.T) { // P6.7
	w := newWorld(t)
	a, b, self, wide := all(1), all(2), all(3), all(4)
	w.plant(a, treeOf(folder("x", b), file("y", all(9))))
	w.plant(b, treeOf(file("0", all(9)), folder("z", a)))
	w.plant(self, treeOf(folder("s", self)))
	w.plant(wide, treeOf(append(row(200, api.ModeFile, all(9)), folder("s", wide))...))
	w.unread("a ring of two", a, api.ErrTreeDeep)
	w.unread("a ring of one", self, api.ErrTreeDeep)
	w.unread("a wide ring", wide, api.ErrTreeMany)
	w.lookup(self, strings.ReplaceAll(names(32), "n", "s"), self, api.ModeTree, api.OK)
	w.lookup(a, "x/z/x/z/y", all(9), api.ModeFile, api.OK)
	w.plant(api.ID{}, treeOf(file("a", all(1))))
	w.files("all zeros are no files, whatever there is", api.ID{}, nil)
	w.files("all zeros beneath", w.tree(folder("a", api.ID{})), set("a/a:1"))
}

// work tells how much memory is taken while something is done: each look into an object takes some.
func work(do func()) uint64 {
	var before, behind runtime.MemStats
	runtime.ReadMemStats(&before)
	do()
	runtime.ReadMemStats(&behind)
	return behind.TotalAlloc - before.TotalAlloc
}

// TestWork has trees of so many files that no call that goes through them ends, and great objects that are not to be looked at.
func TestWork(t *testing.T) { // P6.7, R6
	w := newWorld(t)
	tree := w.tree(row(1024, api.ModeFile, w.blob(strings.Repeat("x", api.MaxObject-1)))...)
	for range 31 {
		tree = w.tree(row(1024, api.ModeTree, tree)...)
	}
	empties := w.tree()
	for range 30 {
		empties = w.tree(row(1024, api.ModeTree, empties)...)
	}
	double := w.tree()
	for range 31 {
		double = w.tree(folder("a", double), folder("b", double))
	}
	for what, root := range map[string]api.ID{"1024 to the 32nd files": tree, "1024 to the 30th empty trees": empties, "2 to the 31st empty trees": double} {
		size := work(func() { w.unread(what, root, api.ErrTreeMany) })
		if size > 1<<30 {
			t.Errorf("%s: %d bytes are taken", what, size)
		}
		w.lookup(root, "a/b/a/c", api.ID{}, api.ModeNone, api.ErrTreeNone)
	}
	files := slices.Repeat(many(1), 1<<20)
	if size := work(func() { refused(t, "too many files", files, api.ErrTreeMany) }); size > 1<<16 {
		t.Errorf("%d bytes are taken for files that are too many", size)
	}
	path := strings.Repeat("a/", 1<<24)
	if size := work(func() { w.lookup(tree, path, api.ID{}, api.ModeNone, api.ErrTreePath) }); size > 1<<16 {
		t.Errorf("%d bytes are taken for a path that is too long", size)
	}
}

// TestDeepSets has as many folders as files can have.
func TestDeepSets(t *testing.T) { // P6.1, P6.5, P6.7
	var files []api.File
	for i := range 4096 {
		parts := slices.Repeat([]string{fmt.Sprintf("%03d", i%64) + strings.Repeat("x", 27)}, 32)
		parts[0], parts[1] = fmt.Sprint(i/64), fmt.Sprint(i)
		files = append(files, api.File{Path: strings.Join(parts, "/"), Mode: api.ModeFile, ID: all(byte(i))})
	}
	_, encodings, e := Build(files)
	if len(encodings) < 4096 || e != api.OK {
		t.Fatalf("Build: %d encodings, %v", len(encodings), e)
	}
	joined(t, "deep files", files, nil, modelSort(files), api.OK)
}

func TestMemory(t *testing.T) { // P6.7, R2
	w := newWorld(t)
	files := set("b/d:4 a:1 b/c:2* e/c:2* e/d:4 é:3@")
	changes := []api.Change{change("é", "3@", ""), change("a", "1", "5"), change("b/x", "", "6")}
	fileRoom, changeRoom := append(slices.Clone(files), one("room:7"), one("behind:8")), append(slices.Clone(changes), change("room", "", "9"))
	wasFiles, wasChanges := slices.Clone(fileRoom), slices.Clone(changeRoom)
	a, b, c, d := w.lay(files), w.lay(set("a:1 f/g:2")), w.lay(set("a:2 f:3")), w.lay(set("q:1"))
	stored := w.contents()
	answers := func() []any {
		id, trees, _ := Build(fileRoom[:len(files)])
		list, _ := Files(w.s, a)
		different, _ := Diff(w.s, a, b)
		outcome, _ := Join(fileRoom[:len(files)], changeRoom[:len(changes)])
		mergedID, mergedTrees, _, _ := Merge(w.s, api.ID{}, a, d)
		_, _, conflicts, _ := Merge(w.s, api.ID{}, b, c)
		return []any{id, trees, list, different, outcome, mergedID, mergedTrees, conflicts}
	}
	one, two := answers(), answers()
	want := fmt.Sprint(two)
	if fmt.Sprint(one) != want || strings.Contains(want, "[]") {
		t.Errorf("asked twice: %v, then %v", one, two)
	}
	for _, answer := range one {
		spoil(answer)
	}
	if !slices.Equal(fileRoom, wasFiles) || !slices.Equal(changeRoom, wasChanges) {
		t.Error("what is handed in, or the room behind it, is changed")
	}
	if fmt.Sprint(two) != want || fmt.Sprint(answers()) != want {
		t.Error("an answer shares memory")
	}
	spoil(fileRoom)
	spoil(changeRoom)
	if fmt.Sprint(two) != want {
		t.Error("what is handed in is shared")
	}
	if got := w.contents(); fmt.Sprint(got) != fmt.Sprint(stored) {
		t.Errorf("the store holds %d objects, held %d, or they are others", len(got), len(stored))
	}
}

// spoil overwrites a list with the spare room behind its end.
func spoil(list any) {
	switch list := list.(type) {
	case []api.File:
		fill(list, one("spoilt:255"))
	case []api.Change:
		fill(list, change("spoilt", "254", "255"))
	case []string:
		fill(list, "spoilt")
	case [][]byte:
		for _, enc := range list {
			fill(enc, 0xaa)
		}
		fill(list, []byte("spoilt"))
	}
}

func fill[T any](list []T, item T) {
	list = list[:cap(list)]
	for i := range list {
		list[i] = item
	}
}

func TestEncodingsShareNothing(t *testing.T) { // R2
	_, encodings, _ := Build(many(3000))
	for i, enc := range encodings {
		fill(enc, byte(i))
	}
	for i, enc := range encodings {
		if !bytes.Equal(enc, bytes.Repeat([]byte{byte(i)}, len(enc))) {
			t.Errorf("encoding %d shares memory with another one", i)
		}
	}
}

func TestEmptyLists(t *testing.T) { // R3
	id, _, e := Build([]api.File{})
	if id != digest.Sum([]byte{2, 0}) || e != api.OK {
		t.Errorf("Build: %.3x, %v", id, e)
	}
	joined(t, "empty lists", []api.File{}, []api.Change{}, nil, api.OK)
	joined(t, "an empty list of files", []api.File{}, []api.Change{change("a", "", "1")}, set("a:1"), api.OK)
	joined(t, "an empty list of changes", set("a:1"), []api.Change{}, set("a:1"), api.OK)
}

// TestNothingCallsItself follows the names in the package's text from each function to others of the package.
func TestNothingCallsItself(t *testing.T) { // the chapter's ways
	used := namesInFunctions(t)
	if len(used) < 10 || used["Merge"] == nil {
		t.Fatalf("only %d functions are found", len(used))
	}
	for begin := range used {
		seen := map[string]bool{}
		next := used[begin]
		for len(next) > 0 {
			name := next[0]
			next = next[1:]
			if name == begin {
				t.Errorf("%s calls itself", begin)
				break
			}
			if used[name] != nil && !seen[name] {
				seen[name] = true
				next = append(slices.Clone(used[name]), next...)
			}
		}
	}
}

func namesInFunctions(t *testing.T) map[string][]string {
	t.Helper()
	used := map[string][]string{}
	files, _ := filepath.Glob("*.go")
	for _, name := range files {
		if strings.HasSuffix(name, "_test.go") {
			continue
		}
		parsed, err := parser.ParseFile(token.NewFileSet(), name, nil, 0)
		if err != nil {
			t.Fatal(err)
		}
		for _, declared := range parsed.Decls {
			function, ok := declared.(*ast.FuncDecl)
			if !ok {
				continue
			}
			ast.Inspect(function.Body, func(n ast.Node) bool {
				if name, ok := n.(*ast.Ident); ok {
					used[function.Name.Name] = append(used[function.Name.Name], name.Name)
				}
				return true
			})
		}
	}
	return used
}
