package refs

import (
	"slices"
	"strconv"
	"strings"
	"testing"

	"satchel/api"
	"satchel/digest"
)

func TestResolveExamples(t *testing.T) { // P14.8
	x := newExample(t)
	x.means(x.c2, "HEAD", "main", "heads/main", "main~0", "main^0")
	x.means(x.c1, "main~", "main^", "main~1", "main^1", "v^{}", "v~0")
	x.means(x.c0, "main^2", digest.Hex(x.c0)[:7])
	x.means(x.v, "v", "v^{tag}")
	x.means(x.empty, "v^{tree}")
	x.means(x.blob, "main:a/f", "main^{tree}:a/f")
	x.means(x.a, "main:a")
	x.means(x.top, "main:")
	x.fails(api.ErrRefsStep, "main~2", "main^3", "main:b", "main:a/f/g", "main^{blob}", "v:a~1")
	x.fails(api.ErrRefsNone, "nope", "dead")
	x.fails(api.ErrRefsText, "", "main~01", "main^{x}", "main^{", "main~1x", "ma in", "~1")
}

func TestResolveTexts(t *testing.T) { // P14.8: ErrRefsText, by the steps
	x := newExample(t)
	for _, steps := range []string{
		"~00", "~01", "^00", "^01", "~000000", "~010", "~1000000", "^1000000", "~0000001", "~12345678901234567890123", "^99999999999999999999",
		"~1x", "~x", "^x", "^1x", "~-1", "^-1", "~+1", "^+1", "~ 1", "~1 ", " ~1", "~١", "^²", "~1.", "~/", "^1/a", "~\xff", "~\x00",
		"^{", "^{}}", "^{x}", "^{commit", "^{commit}x", "^{Commit}", "^{ commit}", "^{commit }", "^{commits}", "^{commi}", "^{none}", "^{object}", "^{/a}", "^{0}", "^{{}}", "^{}{}", "^{tree}{}", "^}", "^{tag", "^{tree^{}", "^{~}", "^{:}", "^1{}", "^1{tree}", "~{}", "~{tree}", "~1{}", "{}", "{tree}", "^ {}", "^{ }", "^{\n}", "^{\xff}",
		"~@", "^@", "^!", "@{1}", "~1{", "~1}", "^{}{",
	} {
		text := "main" + steps
		x.fails(api.ErrRefsText, text, "v~0"+steps, "nope"+steps, "main~999999"+steps, "main^{blob}"+steps, "HEAD"+steps, "dead"+steps)
		// Behind ':' there is a path, whatever it is.
		x.fails(api.ErrRefsStep, "main:"+text, "main:a"+steps)
		x.fails(api.ErrRefsNone, "nope:"+steps)
	}
	for b := range 256 {
		sign := string([]byte{byte(b)})
		if strings.Contains("~^:", sign) {
			continue
		}
		x.fails(api.ErrRefsText, "main~1^"+sign+"x", "main^{}"+sign, "main^{"+sign+"}", "main~1^{tree}"+sign)
	}
}

func TestResolveBasesThatAreNone(t *testing.T) { // P14.8: ErrRefsText, by the base, ahead of all else
	x := newExample(t)
	for _, base := range []string{"", "/main", "main/", "heads//main", ".main", "main.", "ma..in", "-main", "ma in", " main", "main ", "main\n", "*", "heads/*", "@", "ma\xffin", "main{}", "main}", strings.Repeat("a", 256), strings.Repeat("main/", 100000) + "x"} {
		x.ref(base, x.c2)
		x.ref("heads/"+base, x.c2)
		x.fails(api.ErrRefsText, base, base+"~", base+"^2", base+":a", base+":", base+"^{tree}:a/f", base+"~01")
	}
	for _, base := range []string{"head", "HEADS", "HEA", "Head", "heads", "heads/HEAD", "heads/heads/main", "ain", "mai", "Main", "é", strings.Repeat("a", 255), "g123", "abc", "ABCD"} {
		x.fails(api.ErrRefsNone, base, base+"~", base+"^2", base+":a", base+"^{tree}:a/f", base+"^{blob}^{blob}")
		x.fails(api.ErrRefsText, base+"~01", base+"^{", base+"^{tree}x")
	}
	x.fails(api.ErrRefsNone, "nope:~01", "nope:\xff")
}

func TestResolveHead(t *testing.T) { // P14.8: the ref that head names
	x := newExample(t)
	x.ref("main", x.c0)
	x.ref("dead", x.c1)
	x.ref("heads/HEAD", x.c0)
	x.ref("tags/HEAD", x.c0)
	x.ref("far/HEAD", x.c0)
	x.ref("heads/other", x.v)
	x.ref("heads/none", api.ID{})
	x.means(x.c2, "HEAD", "HEAD^{}", "HEAD~0")
	x.means(x.c1, "HEAD~", "HEAD^")
	x.means(x.blob, "HEAD:a/f")
	x.means(x.c0, "heads/HEAD", "HEAD^2")
	x.head = "heads/other"
	x.means(x.v, "HEAD")
	x.means(x.c1, "HEAD^{}")
	x.head = "dead"
	x.means(x.c1, "HEAD")
	x.head = "main"
	x.means(x.c0, "HEAD")
	// A head is a ref's whole name, and no object's beginning.
	for _, head := range []string{"", "other", "v", "HEAD", "heads/", "heads/none", "heads/nope", "none", digest.Hex(x.c2), digest.Hex(x.c2)[:7], "heads/main~0", "heads/main ", "\xff"} {
		x.head = head
		x.fails(api.ErrRefsNone, "HEAD", "HEAD~", "HEAD^{blob}", "HEAD:a", "HEAD:")
		x.fails(api.ErrRefsText, "HEAD~01", "HEAD^{")
		x.means(x.c0, "main")
	}
	// Refs are plain data: one may have any name.
	x.ref("a b", x.c0)
	x.head = "a b"
	x.means(x.c0, "HEAD")
}

func TestResolveRefs(t *testing.T) { // P14.8: of that very name, behind heads/, tags/, far/: the first that there is
	one, two, three, four := all(1), all(2), all(3), all(4)
	w := newWorld(t)
	none := w.blob("x")
	for _, base := range []string{"n", "n/m", "HEAD/n", "heads/n", "tags", "far/n", "dead", "0123", digest.Hex(none), digest.Hex(none)[:6], "é", strings.Repeat("l", 255)} {
		names := []string{base, "heads/" + base, "tags/" + base, "far/" + base}
		ids := []api.ID{one, two, three, four}
		for there := range 1 << len(names) {
			w.refs = nil
			want := api.ID{}
			for i := range names {
				if there>>i&1 == 0 {
					continue
				}
				if want == (api.ID{}) {
					want = ids[i]
				}
				// In the list they stand the other way round, beside others.
				w.refs = append([]api.Ref{{Name: names[i], ID: ids[i]}, {Name: "x/" + base, ID: none}, {Name: base + "x", ID: none}}, w.refs...)
			}
			switch {
			case want != (api.ID{}):
				w.means(want, base)
			case strings.HasPrefix(digest.Hex(none), base):
				w.means(none, base)
			default:
				w.fails(api.ErrRefsNone, base)
			}
		}
	}
	w.refs = []api.Ref{{Name: "far/x/heads/n", ID: one}, {Name: "heads/heads/m", ID: two}, {Name: "tags/heads/m", ID: three}}
	w.means(one, "x/heads/n", "far/x/heads/n")
	w.means(two, "heads/m", "heads/heads/m")
	w.fails(api.ErrRefsNone, "n", "heads/n", "m", "x")
}

func TestResolveRefsTwice(t *testing.T) { // P14.8: of several refs with one name the first counts; one whose ID is zero is not there
	one, two := all(1), all(2)
	w := newWorld(t)
	w.refs = []api.Ref{{Name: "heads/n", ID: one}, {Name: "heads/n", ID: two}, {Name: "n"}, {Name: "tags/m", ID: two}, {Name: "heads/m"}, {Name: "m"}, {Name: "tags/o"}, {Name: "heads/p"}, {Name: "heads/p", ID: one}, {Name: "tags/p", ID: two}, {Name: "q"}, {Name: "q", ID: one}}
	w.head = "heads/n"
	w.means(one, "n", "heads/n", "HEAD")
	w.means(two, "m", "tags/m", "p")
	w.fails(api.ErrRefsNone, "o", "heads/m", "heads/p", "q", "tags/o", "o~", "q^{}")
	w.head = "heads/p"
	w.fails(api.ErrRefsNone, "HEAD")
	w.refs = nil
	w.fails(api.ErrRefsNone, "n", "HEAD", "heads/n")
	w.refs = []api.Ref{}
	w.fails(api.ErrRefsNone, "n", "HEAD", "heads/n")
}

func TestResolveDigits(t *testing.T) { // P14.8: 4 to 64 small hexadecimal digits
	w := newWorld(t)
	one, two, prefix := w.twins(5)
	hex := digest.Hex(one)
	w.fails(api.ErrRefsMany, prefix, prefix[:4], prefix+"~", prefix+"^{blob}", prefix+":")
	w.fails(api.ErrRefsNone, prefix[:3], prefix[:3]+"~", "ffff"+strings.Repeat("0", 61), hex+"0", hex+"a", hex[:63]+"g")
	w.fails(api.ErrRefsText, prefix+"~01")
	for n := len(digest.Short([]api.ID{one, two}, one)); n <= 64; n++ {
		w.means(one, hex[:n], hex[:n]+"^{}", hex[:n]+"^{blob}")
		w.fails(api.ErrRefsStep, hex[:n]+"~0", hex[:n]+":")
		if big := strings.ToUpper(hex[:n]); big != hex[:n] {
			w.fails(api.ErrRefsNone, big)
		}
	}
	w.means(two, digest.Hex(two))
	w.fails(api.ErrRefsNone, digest.Hex(all(0)), digest.Hex(all(255)))
	// A ref counts ahead of what is found by digits, of several, too; one that is not there doesn't.
	for _, name := range []string{"", "heads/", "tags/", "far/"} {
		for _, base := range []string{prefix, prefix[:4], hex, hex[:20], prefix[:3], hex + "0"} {
			w.refs = []api.Ref{{Name: name + base, ID: two}}
			w.means(two, base, base+"^{}")
		}
		w.refs = []api.Ref{{Name: name + hex}, {Name: name + prefix}, {Name: name + "dead"}}
		w.means(one, hex)
		w.fails(api.ErrRefsMany, prefix)
		w.fails(api.ErrRefsNone, "dead")
	}
	w.refs = nil
	w.s.Remove(two)
	w.means(one, prefix, prefix[:4])
	w.s.Remove(one)
	w.fails(api.ErrRefsNone, prefix, prefix[:4], hex)
	zero := newWorld(t)
	zero.plant(api.ID{}, aTag(all(1), api.KindBlob))
	zero.means(api.ID{}, "0000", digest.Hex(api.ID{}), "0000^{tag}")
}

func TestResolveWithoutSteps(t *testing.T) { // P14.8: the id that the ref holds, whether it is there or not
	x := newExample(t)
	gone := all(7)
	x.ref("heads/gone", gone)
	x.means(gone, "gone", "heads/gone")
	x.head = "heads/gone"
	x.means(gone, "HEAD")
	x.fails(api.ErrRefsStep, "gone~0", "gone^0", "gone^{}", "gone^{commit}", "gone^{tree}", "gone^{blob}", "gone^{tag}", "gone:", "gone:a", "gone~", "HEAD^", "HEAD^{}")
	x.fails(api.ErrRefsNone, digest.Hex(gone))
	for _, id := range []api.ID{x.blob, x.a, x.c0, x.v} {
		x.ref("tags/"+digest.Hex(id), id)
		x.means(id, digest.Hex(id))
	}
}

func TestResolveBack(t *testing.T) { // P14.8: '~'
	w := newWorld(t)
	tree := w.tree()
	line, side := []api.ID{w.commit(tree, "first")}, w.commit(tree, "side")
	for i := range 29 {
		line = append(line, w.commit(tree, "next", line[i], side, all(9))) // further parents are not looked at
	}
	last := len(line) - 1
	w.ref("heads/line", line[last])
	w.ref("tags/t", w.tag(w.tag(line[last], api.KindCommit), api.KindTag))
	for n, id := range line {
		steps := strings.Repeat("~", last-n)
		number := "~" + strconv.Itoa(last-n)
		w.means(id, "line"+steps, "line"+number, "t"+steps+"~0", "t"+number, "line~0"+number+"~0", "line^0"+steps, digest.Hex(line[last])+number)
		if n < last {
			w.means(id, "line~"+strconv.Itoa(last-n-1)+"~", "line~~"+strconv.Itoa(last-n-1), "t^"+strings.Repeat("~1", last-n-1))
		}
	}
	w.fails(api.ErrRefsStep, "line~30", "line~29~", "line~29^", "line~100000", "line~999999", "t~30", "t~999999", "line~29~999999")
	w.means(line[0], "line~29", "line~29~0", "line~29^0", "line~29^{}", "line~29^{commit}")
}

func TestResolveParents(t *testing.T) { // P14.8: '^'
	w := newWorld(t)
	tree := w.tree()
	var parents []api.ID
	for i := range api.MaxParents {
		parents = append(parents, w.commit(tree, strconv.Itoa(i)))
	}
	many := w.commit(tree, "many", parents...)
	w.ref("heads/many", many)
	w.ref("tags/t", w.tag(w.tag(many, api.KindCommit), api.KindTag))
	for i, id := range parents {
		n := "^" + strconv.Itoa(i+1)
		w.means(id, "many"+n, "t"+n, "many"+n+"^0", "many~0"+n+"~0^{commit}")
		w.fails(api.ErrRefsStep, "many"+n+"^1", "many"+n+"^", "many"+n+"~", "t"+n+"^2")
	}
	w.means(parents[0], "many^", "many~", "t^", "t~")
	w.means(many, "many^0", "t^0", "t^0^0~0")
	w.fails(api.ErrRefsStep, "many^9", "many^10", "many^999999", "t^9", "many^^", "many^2^2", "many~1^")
	two := w.commit(tree, "two", parents[0], many)
	w.ref("heads/two", two)
	w.means(many, "two^2", "two^2^0")
	w.means(parents[7], "two^2^8", "two^2^8~0^0")
	w.means(parents[0], "two^1", "two^2^1", "two^2~", "two~")
	w.fails(api.ErrRefsStep, "two^1^1", "two^3", "two~^2")
}

func TestResolveParentsThatAreNone(t *testing.T) { // P14.8: parents that are not there, or no commits
	w := newWorld(t)
	tree := w.tree()
	root := w.commit(tree, "root")
	gone := all(7)
	for what, odd := range map[string]api.ID{"gone": gone, "blob": w.blob("x"), "tree": tree, "tag": w.tag(root, api.KindCommit), "zero": {}} {
		w.refs = nil
		w.ref("first", w.commit(tree, what, odd, root))
		w.ref("second", w.commit(tree, what, root, odd))
		w.ref("behind", w.commit(tree, what, w.commit(tree, what, odd)))
		// The last one may be anything; it is a further step, or a further parent by the same one, that asks what it is.
		w.means(odd, "first^", "first^1", "first~", "first~1", "second^2", "behind~2", "behind~~", "behind^~", "behind~^")
		w.means(root, "first^2", "second^1", "second~")
		w.fails(api.ErrRefsStep, "first~2", "behind~3", "first~999999", "behind~4", "second~2", "first^3")
		if what == "tag" {
			w.means(root, "first~1~0", "first^^0", "first^^{}", "behind~2^{commit}", "second^2~0")
			w.means(odd, "first~^{tag}")
			w.fails(api.ErrRefsStep, "first~~", "first^^", "behind~2~1")
			continue
		}
		w.fails(api.ErrRefsStep, "first~~", "first~~0", "first^^0", "first^^", "first~^2", "second^2~0", "second^2^{commit}", "behind~2~0")
	}
}

func TestResolveKinds(t *testing.T) { // P14.8: '^{..}'
	w := newWorld(t)
	blob := w.blob("x")
	sub := w.tree(file("f", blob))
	tree := w.tree(folder("d", sub))
	commit := w.commit(tree, "c")
	kinds := []struct {
		name string
		id   api.ID
		kind int
	}{{"blob", blob, api.KindBlob}, {"tree", tree, api.KindTree}, {"commit", commit, api.KindCommit}}
	for _, k := range kinds {
		tag := w.tag(k.id, k.kind)
		tagged := w.tag(w.tag(tag, api.KindTag), api.KindTag)
		w.refs = nil
		w.ref("o", k.id)
		w.ref("t", tag)
		w.ref("tt", tagged)
		w.means(k.id, "o", "o^{}", "t^{}", "tt^{}", "o^{}^{}", "tt^{}^{}", "t^{tag}^{}")
		w.means(tag, "t", "t^{tag}", "t^{tag}^{tag}")
		w.means(tagged, "tt", "tt^{tag}")
		w.fails(api.ErrRefsStep, "o^{tag}", "t^{}^{tag}", "tt^{}^{tag}", "o^{}^{tag}")
		for _, base := range []string{"o", "t", "tt", "t^{tag}", "tt^{}"} {
			for _, want := range kinds {
				text := base + "^{" + want.name + "}"
				switch {
				case want == k:
					w.means(k.id, text, text+"^{}", text+text[len(base):])
				case want.kind == api.KindTree && k.kind == api.KindCommit:
					w.means(tree, text, text+"^{tree}", text+"^{}", text+":")
				default:
					w.fails(api.ErrRefsStep, text, text+"^{}", text+":")
				}
			}
			steps := []string{base + "~0", base + "^0", base + "~", base + "^", base + "^2"}
			if k.kind == api.KindCommit {
				w.means(commit, steps[:2]...)
				steps = steps[2:]
			}
			w.fails(api.ErrRefsStep, steps...)
			paths := []string{base + ":d", base + ":d/f", base + ":", base + "^{tree}:d/f"}
			if k.kind == api.KindBlob {
				w.fails(api.ErrRefsStep, paths...)
				continue
			}
			for i, id := range []api.ID{sub, blob, tree, blob} {
				w.means(id, paths[i])
			}
		}
	}
}

func TestResolveTagsThatLeadNowhere(t *testing.T) { // P14.8: walk's Peel
	w := newWorld(t)
	tree := w.tree()
	commit := w.commit(tree, "c")
	steps := []string{"^{}", "^{commit}", "^{tree}", "^{blob}", "~0", "~", "^0", "^", ":", ":a"}
	odd := []api.ID{w.tag(all(7), api.KindCommit), w.tag(commit, api.KindTree), w.tag(tree, api.KindCommit), w.tag(commit, api.KindTag), w.tag(w.tag(all(7), api.KindTag), api.KindTag), w.tag(w.tag(commit, api.KindBlob), api.KindTag), w.tag(w.tag(commit, api.KindCommit), api.KindCommit), w.tag(api.ID{}, api.KindBlob), all(7)}
	ring := []api.ID{all(1), all(2), all(3)}
	w.plant(ring[0], aTag(ring[1], api.KindTag))
	w.plant(ring[1], aTag(ring[0], api.KindTag))
	w.plant(ring[2], aTag(ring[2], api.KindTag))
	for _, id := range append(odd, ring...) {
		w.refs = nil
		w.ref("t", id)
		w.means(id, "t")
		for _, step := range steps {
			w.fails(api.ErrRefsStep, "t"+step)
		}
		if w.s.Has(id) {
			w.means(id, "t^{tag}", "t^{tag}^{tag}")
		} else {
			w.fails(api.ErrRefsStep, "t^{tag}")
		}
	}
}

func TestResolveTrees(t *testing.T) { // P14.8: a commit's tree must be there and a tree
	w := newWorld(t)
	blob := w.blob("x")
	tree := w.tree()
	for _, odd := range []api.ID{all(7), {}, blob, w.commit(tree, "c"), w.tag(tree, api.KindTree)} {
		c := w.commit(odd, "odd")
		w.refs = nil
		w.ref("c", c)
		w.ref("t", w.tag(c, api.KindCommit))
		w.means(c, "c", "c~0", "c^{}", "t^{commit}", "t^0")
		w.fails(api.ErrRefsStep, "c^{tree}", "t^{tree}", "c:", "c:a", "t:", "t:a", "c^{tree}:")
	}
	w.refs = []api.Ref{{Name: "gone", ID: all(7)}}
	w.fails(api.ErrRefsStep, "gone:", "gone^{tree}", "gone:a")
}

func TestResolvePaths(t *testing.T) { // P14.8: ':'
	w := newWorld(t)
	blob := w.blob("x")
	inner := w.tree(file("f", blob), folder("gone", all(7)), folder("odd", blob), file("z~1", all(8)), file("é", blob))
	top := w.tree(api.Entry{Mode: api.ModeLink, Name: " ", ID: blob}, file(":", blob), file(":a", all(9)), folder("a", inner), folder("a:b", inner), file("b^{tree}", blob), file("x", all(6)), api.Entry{Mode: api.ModeRun, Name: "~", ID: blob})
	w.ref("c", w.commit(top, "c"))
	w.ref("t", w.tag(top, api.KindTree))
	for _, base := range []string{"c", "t", "c^{tree}", "c~0", "t^{}", digest.Hex(top), "c^{}^{tree}^{}"} {
		w.means(top, base+":")
		w.means(inner, base+":a", base+":a:b")
		w.means(blob, base+":a/f", base+":a:b/f", base+":a/é", base+": ", base+"::", base+":b^{tree}", base+":~")
		// What a path leads to need not be there.
		w.means(all(6), base+":x")
		w.means(all(7), base+":a/gone")
		w.means(all(8), base+":a/z~1")
		w.means(all(9), base+"::a")
		w.means(blob, base+":a/odd")
		w.fails(api.ErrRefsStep, base+":b", base+":/", base+":/a", base+":a/", base+":a//f", base+":./a", base+":a/..", base+":.", base+":a/f/g", base+":a/f/", base+":a/gone/f", base+":a/odd/f", base+":x/y", base+":a~1", base+":a^{}", base+":a^{tree}", base+":A", base+":\xff", base+":\n", base+":\x00", base+":a/é/f", base+":::")
		w.fails(api.ErrRefsStep, base+":"+strings.Repeat("a/", 40)+"a", base+":"+strings.Repeat("a", 2000), base+":"+strings.Repeat("a/", 1<<20), base+":"+strings.Repeat("x", 256))
	}
	// Paths of 1024 bytes and of 32 names are the longest.
	l := strings.Repeat("l", 255)
	for _, c := range []struct {
		names []string
		right bool
	}{
		{[]string{l, l, l, l[1:], "f"}, true}, {[]string{l, l, l, l, "f"}, false},
		{slices.Repeat([]string{"d"}, 32), true}, {slices.Repeat([]string{"d"}, 33), false},
	} {
		id := blob
		for i, name := range slices.Backward(c.names) {
			if i == len(c.names)-1 {
				id = w.tree(file(name, id))
			} else {
				id = w.tree(folder(name, id))
			}
		}
		w.refs = []api.Ref{{Name: "deep", ID: id}}
		text := "deep:" + strings.Join(c.names, "/")
		if c.right {
			w.means(blob, text)
		} else {
			w.fails(api.ErrRefsStep, text)
		}
	}
}
