package object

import (
	"bytes"
	"crypto/sha256"
	"encoding/hex"
	"fmt"
	"math"
	"math/rand"
	"reflect"
	"runtime"
	"slices"
	"strings"
	"testing"
	"unicode/utf8"

	"satchel/api"
	"satchel/code"
	"satchel/digest"
)

// all tells an id whose bytes are all the same.
func all(b byte) api.ID {
	var id api.ID
	for i := range id {
		id[i] = b
	}
	return id
}

func blobOf(b []byte) api.Object { return api.Object{Kind: api.KindBlob, Blob: b} }

func treeOf(entries ...api.Entry) api.Object {
	return api.Object{Kind: api.KindTree, Entries: entries}
}

func commitOf(c api.Commit) api.Object { return api.Object{Kind: api.KindCommit, Commit: c} }

func tagOf(t api.Tag) api.Object { return api.Object{Kind: api.KindTag, Tag: t} }

// filesOf tells a tree of files of these names.
func filesOf(names ...string) api.Object {
	o := treeOf()
	for i, name := range names {
		o.Entries = append(o.Entries, api.Entry{Mode: api.ModeFile, Name: name, ID: all(byte(i))})
	}
	return o
}

// numbered tells n names that rise, each of so many bytes.
func numbered(n, size int) []string {
	names := make([]string, n)
	for i := range names {
		names[i] = fmt.Sprintf("%04d", i) + strings.Repeat("x", size-4)
	}
	return names
}

func parentsOf(n int) []api.ID {
	parents := make([]api.ID, n)
	for i := range parents {
		parents[i] = all(byte(n - i))
	}
	return parents
}

// same holds two objects against each other; nil lists and empty ones are the same.
func same(a, b api.Object) bool {
	sameTag := a.Tag == b.Tag
	sameCommit := a.Commit.Tree == b.Commit.Tree && slices.Equal(a.Commit.Parents, b.Commit.Parents) &&
		a.Commit.Who == b.Commit.Who && a.Commit.Time == b.Commit.Time && a.Commit.Text == b.Commit.Text
	return a.Kind == b.Kind && bytes.Equal(a.Blob, b.Blob) && slices.Equal(a.Entries, b.Entries) && sameCommit && sameTag
}

func encoded(t *testing.T, o api.Object) []byte {
	t.Helper()
	b, e := Encode(o)
	if e != api.OK {
		t.Fatalf("Encode(%.80s): %v", fmt.Sprintf("%+v", o), e)
	}
	return b
}

func unhexed(t *testing.T, s string) []byte {
	t.Helper()
	b, err := hex.DecodeString(strings.ReplaceAll(s, " ", ""))
	if err != nil {
		t.Fatal(err)
	}
	return b
}

// laid tells what a writer holds.
func laid(lay func(w *code.Writer)) []byte {
	w := code.New()
	lay(w)
	return w.Out()
}

func refused(t *testing.T, what string, o api.Object, want api.Errno) {
	t.Helper()
	if b, e := Encode(o); e != want || len(b) > 0 {
		t.Errorf("%s: Encode tells %d bytes, %v, want %v", what, len(b), e, want)
	}
}

// notRead holds all that reads bytes against one error.
func notRead(t *testing.T, what string, b []byte, want api.Errno) {
	t.Helper()
	if o, e := Parse(b); e != want || !same(o, api.Object{}) {
		t.Errorf("%s: Parse(%.40x) tells %.80s, %v, want %v", what, b, fmt.Sprintf("%+v", o), e, want)
	}
	if links, e := Children(b); e != want || len(links) > 0 {
		t.Errorf("%s: Children(%.40x) tells %d links, %v, want %v", what, b, len(links), e, want)
	}
	if k := Kind(b); k != api.KindNone {
		t.Errorf("%s: Kind(%.40x) tells %d", what, b, k)
	}
}

// thereAndBack holds Encode and Parse against each other.
func thereAndBack(t *testing.T, what string, o api.Object) {
	t.Helper()
	b := encoded(t, o)
	back, e := Parse(b)
	if e != api.OK || !same(back, o) {
		t.Errorf("%s: read back: %v, %.200s", what, e, fmt.Sprintf("%+v", back))
	}
	if Kind(b) != o.Kind {
		t.Errorf("%s: Kind tells %d", what, Kind(b))
	}
}

// samples are right objects of all kinds, with their encodings.
func samples() map[string]api.Object {
	eleven := strings.Repeat(" 11", 32)
	zeros := strings.Repeat(" 00", 32)
	return map[string]api.Object{
		"01 68 69":                  blobOf([]byte("hi")),
		"01":                        blobOf(nil),
		"01 00 ff 01":               blobOf([]byte{0, 0xff, 1}),
		"02 00":                     treeOf(),
		"02 01 01 01 61" + eleven:   treeOf(api.Entry{Mode: api.ModeFile, Name: "a", ID: all(0x11)}),
		"02 01 04 02 c3 a9" + zeros: treeOf(api.Entry{Mode: api.ModeTree, Name: "é"}),
		"03" + eleven + " 00 02 6d 65 00 00 00 00 00 00 00 05 01 78": commitOf(api.Commit{Tree: all(0x11), Who: "me", Time: 5, Text: "x"}),
		"03" + zeros + " 02" + strings.Repeat(" 22", 32) + eleven + " 00 00 00 01 00 00 00 00 00 00": commitOf(api.Commit{
			Parents: []api.ID{all(0x22), all(0x11)}, Time: 1 << 40}),
		"04" + eleven + " 03 02 76 31 02 c3 a9 00 00 00 00 00 00 01 02 03 0a ff 00": tagOf(api.Tag{
			Target: all(0x11), Kind: api.KindCommit, Name: "v1", Who: "é", Time: 258, Text: "\n\xff\x00"}),
		"02 03 02 01 61" + zeros + " 03 03 61 2e 62" + eleven + " 04 02 61 62" + eleven: treeOf(
			api.Entry{Mode: api.ModeRun, Name: "a"}, api.Entry{Mode: api.ModeLink, Name: "a.b", ID: all(0x11)}, api.Entry{Mode: api.ModeTree, Name: "ab", ID: all(0x11)}),
	}
}

func TestEncodings(t *testing.T) { // P3.1, P3.2
	for text, o := range samples() {
		want := unhexed(t, text)
		if b := encoded(t, o); !bytes.Equal(b, want) {
			t.Errorf("Encode(%+v): %x, want %x", o, b, want)
		}
		if got, e := Parse(want); e != api.OK || !same(got, o) {
			t.Errorf("Parse(%x): %+v, %v, want %+v", want, got, e, o)
		}
	}
}

func TestExamplesThatAreRefused(t *testing.T) { // P3.1, P3.2
	notRead(t, "no bytes", nil, api.ErrObjectKind)
	notRead(t, "no bytes", []byte{}, api.ErrObjectKind)
	for first := range 256 {
		if first < api.KindBlob || first > api.KindTag {
			notRead(t, "a first byte alone", []byte{byte(first)}, api.ErrObjectKind)
			notRead(t, "a first byte with others", []byte{byte(first), 0, 0}, api.ErrObjectKind)
		}
	}
	refused(t, "names b, a", filesOf("b", "a"), api.ErrObjectOrder)
	refused(t, "names a, a", filesOf("a", "a"), api.ErrObjectOrder)
	one := unhexed(t, "02 01 01 01 61"+strings.Repeat(" 11", 32))
	notRead(t, "31 bytes of an id", one[:len(one)-1], api.ErrObjectBytes)
	notRead(t, "a byte behind", append(one, 0), api.ErrObjectBytes)
	notRead(t, "a number in a long form", []byte{2, 0x80, 0}, api.ErrObjectBytes)
	refused(t, "a parent twice", commitOf(api.Commit{Parents: []api.ID{all(1), all(1)}}), api.ErrObjectText)
	refused(t, "nine parents", commitOf(api.Commit{Parents: parentsOf(9)}), api.ErrObjectMany)
	refused(t, "a tag of kind 5", tagOf(api.Tag{Kind: 5, Name: "a"}), api.ErrObjectKind)
}

func TestKindsThatAreNone(t *testing.T) { // P3.1
	for _, kind := range []int{api.KindNone, 5, 6, -1, -4, 256, 257, 258, 1 << 32, 1<<32 + 1, math.MaxInt, math.MinInt, math.MinInt + 1} {
		refused(t, fmt.Sprint("kind ", kind), api.Object{Kind: kind}, api.ErrObjectKind)
		refused(t, fmt.Sprint("a tag of kind ", kind), tagOf(api.Tag{Kind: kind, Name: "a"}), api.ErrObjectKind)
	}
	for kind := api.KindBlob; kind <= api.KindTag; kind++ {
		thereAndBack(t, "a tag", tagOf(api.Tag{Kind: kind, Name: "a"}))
	}
}

func TestModes(t *testing.T) { // P3.1
	for _, mode := range []int{api.ModeNone, 5, -1, 256, 257, 260, 1<<32 + 1, math.MaxInt, math.MinInt} {
		refused(t, fmt.Sprint("mode ", mode), treeOf(api.Entry{Mode: mode, Name: "a"}), api.ErrObjectMode)
		refused(t, fmt.Sprint("a last mode ", mode), treeOf(api.Entry{Mode: 1, Name: "a"}, api.Entry{Mode: mode, Name: "b"}), api.ErrObjectMode)
	}
	for mode := api.ModeFile; mode <= api.ModeTree; mode++ {
		thereAndBack(t, "a mode", treeOf(api.Entry{Mode: mode, Name: "a"}))
	}
}

func TestManyEntriesAndParents(t *testing.T) { // P3.1
	thereAndBack(t, "1024 entries", filesOf(numbered(1024, 4)...))
	refused(t, "1025 entries", filesOf(numbered(1025, 4)...), api.ErrObjectMany)
	for n := range api.MaxParents + 1 {
		thereAndBack(t, fmt.Sprint(n, " parents"), commitOf(api.Commit{Parents: parentsOf(n)}))
	}
	refused(t, "nine parents", commitOf(api.Commit{Parents: parentsOf(9)}), api.ErrObjectMany)
	thereAndBack(t, "a parent of zeros that is the tree, too", commitOf(api.Commit{Parents: make([]api.ID, 1)}))
	for i := range api.MaxParents {
		for j := range i {
			parents := parentsOf(api.MaxParents)
			parents[i] = parents[j]
			refused(t, fmt.Sprint("parents ", j, " and ", i, " the same"), commitOf(api.Commit{Parents: parents}), api.ErrObjectText)
		}
	}
}

func TestOrderOfNames(t *testing.T) { // P3.1
	for _, names := range [][]string{{"a", "a-", "a.b", "a0", "ab", "b"}, {"A", "a"}, {"z", "é"}, {"\uffff", "\U00010000"}, {"...", "a b"}} {
		thereAndBack(t, fmt.Sprint(names), filesOf(names...))
		for i := 1; i < len(names); i++ {
			turned := slices.Clone(names)
			turned[i-1], turned[i] = turned[i], turned[i-1]
			refused(t, fmt.Sprint(turned), filesOf(turned...), api.ErrObjectOrder)
			twice := slices.Insert(slices.Clone(names), i, names[i-1])
			refused(t, fmt.Sprint(twice), filesOf(twice...), api.ErrObjectOrder)
		}
	}
	// The names alone are held against each other: a folder is not told with a '/' behind it.
	thereAndBack(t, "a folder a", treeOf(api.Entry{Mode: api.ModeTree, Name: "a"}, api.Entry{Mode: api.ModeFile, Name: "a.b"}))
}

// lines are texts of which it is told whether they are good lines.
func lines() map[string]bool {
	return map[string]bool{
		"": true, "me": true, "é": true, "a b": true, " ": true, "/": true, ".": true, "~": true, "\u0080": true, "\ufffd": true, "\U0010ffff": true,
		strings.Repeat("x", 255): true, strings.Repeat("é", 127) + "x": true,
		strings.Repeat("x", 256): false, strings.Repeat("é", 128): false,
		"\x00": false, "\n": false, "a\n": false, "\ta": false, "\x1f": false, "a\x7fb": false,
		"\xff": false, "a\x80": false, "\xc3": false, "\xc0\x80": false, "\xed\xa0\x80": false, "\xf4\x90\x80\x80": false, "\xef\xbf": false,
	}
}

func TestLinesTimesAndTexts(t *testing.T) { // P3.1
	hold := func(what string, good bool, c api.Commit) {
		t.Helper()
		g := api.Tag{Kind: api.KindBlob, Name: "n", Who: c.Who, Time: c.Time, Text: c.Text}
		if good {
			thereAndBack(t, what, commitOf(c))
			thereAndBack(t, what, tagOf(g))
			return
		}
		refused(t, what, commitOf(c), api.ErrObjectText)
		refused(t, what, tagOf(g), api.ErrObjectText)
	}
	for who, good := range lines() {
		hold(fmt.Sprintf("who %q", who), good, api.Commit{Who: who})
	}
	for _, time := range []uint64{0, 1, 1<<40 - 1, 1 << 40} {
		hold(fmt.Sprint("time ", time), true, api.Commit{Time: time})
	}
	for _, time := range []uint64{1<<40 + 1, 1 << 63, math.MaxUint64} {
		hold(fmt.Sprint("time ", time), false, api.Commit{Time: time})
	}
	for _, size := range []int{0, 1, 127, 128, 4095, 4096} {
		hold(fmt.Sprint("a text of ", size), true, api.Commit{Text: strings.Repeat("\xff", size)})
	}
	hold("a text of 4097", false, api.Commit{Text: strings.Repeat("x", 4097)})
	hold("a text of any bytes", true, api.Commit{Text: "\x00\n\x7f/\xc0"})
	hold("all at the most", true, api.Commit{Who: strings.Repeat("x", 255), Time: 1 << 40, Text: strings.Repeat("\x00", 4096)})
}

func TestNames(t *testing.T) { // P3.6, P3.1
	names := lines()
	names[""], names["."], names["/"] = false, false, false
	for name, good := range map[string]bool{"...": true, ".a": true, "a.": true, ". ": true, "..": false, "a/b": false, "a/": false, "/a": false, "\\": true, "é/": false} {
		names[name] = good
	}
	for b := range 256 {
		s := string([]byte{'a', byte(b), 'c'})
		names[s] = b >= 32 && b < 127 && b != '/'
	}
	for name, good := range names {
		if Name(name) != good {
			t.Errorf("Name(%q): %v", name, !good)
		}
		g := tagOf(api.Tag{Kind: api.KindTree, Name: name})
		if good {
			thereAndBack(t, fmt.Sprintf("an entry %q", name), filesOf(name))
			thereAndBack(t, fmt.Sprintf("a tag %q", name), g)
			continue
		}
		refused(t, fmt.Sprintf("an entry %q", name), filesOf(name), api.ErrObjectName)
		refused(t, fmt.Sprintf("a last entry %q", name), filesOf("a", name), api.ErrObjectName)
		refused(t, fmt.Sprintf("a tag %q", name), g, api.ErrObjectName)
	}
}

func TestNamesOfEveryRune(t *testing.T) { // P3.6
	for r := range rune(utf8.MaxRune + 1) {
		if !utf8.ValidRune(r) {
			continue
		}
		want := r >= 32 && r != 127 && r != '/' && r != '.'
		if Name(string(r)) != want {
			t.Fatalf("Name(%q): %v", string(r), !want)
		}
	}
}

func TestLengths(t *testing.T) { // P3.1, P3.2
	thereAndBack(t, "a blob of 65535", blobOf(make([]byte, 65535)))
	refused(t, "a blob of 65536", blobOf(make([]byte, 65536)), api.ErrObjectLong)
	refused(t, "a blob of 65537", blobOf(make([]byte, 65537)), api.ErrObjectLong)

	// 1 byte of the kind, 2 of the number, and so for each entry: mode, length, name, id.
	const entries = 1000
	const size = (api.MaxObject - 3 - entries*34) / entries
	names := numbered(entries, size)
	for i := range api.MaxObject - 3 - entries*(34+size) {
		names[i] += "y"
	}
	o := filesOf(names...)
	if b := encoded(t, o); len(b) != api.MaxObject {
		t.Fatalf("a tree of %d bytes", len(b))
	}
	thereAndBack(t, "a tree of 65536 bytes", o)
	o.Entries[0].Name += "y"
	refused(t, "a tree of 65537 bytes", o, api.ErrObjectLong)
	refused(t, "a tree as great as it goes", filesOf(numbered(1024, 255)...), api.ErrObjectLong)

	for first := range 256 {
		b := make([]byte, 65537)
		b[0] = byte(first)
		notRead(t, "65537 bytes", b, api.ErrObjectLong)
		if b = b[:65536]; first < 1 || first > 4 {
			notRead(t, "65536 bytes", b, api.ErrObjectKind)
		}
	}
	long := laid(func(w *code.Writer) { tree(o.Entries).write(w) })
	notRead(t, "a tree of 65537 bytes", long, api.ErrObjectLong)
}

func TestFirstOfSeveralFaults(t *testing.T) { // P3.1, R4
	mode := api.Entry{Mode: 5, Name: "z"}
	name := api.Entry{Mode: 1, Name: "a/b"}
	late := filesOf("c", "b").Entries
	many := filesOf(numbered(1025, 255)...).Entries
	long := filesOf(numbered(1024, 255)...).Entries
	for _, c := range []struct {
		what    string
		entries []api.Entry
		want    api.Errno
	}{
		{"many, mode, name, order", slices.Concat([]api.Entry{name}, late, many, []api.Entry{mode}), api.ErrObjectMany},
		{"mode, name, order", slices.Concat(late, []api.Entry{name, mode}), api.ErrObjectMode},
		{"name, order", slices.Concat(late, []api.Entry{name}), api.ErrObjectName},
		{"mode, long", slices.Concat(long[:1023], []api.Entry{mode}), api.ErrObjectMode},
		{"name, long", slices.Concat(long[:1023], []api.Entry{name}), api.ErrObjectName},
		{"order, long", slices.Concat(long[:1023], long[:1]), api.ErrObjectOrder},
	} {
		refused(t, c.what, api.Object{Kind: api.KindTree, Entries: c.entries}, c.want)
		refused(t, "kind, "+c.what, api.Object{Kind: 7, Entries: c.entries}, api.ErrObjectKind)
	}
	twice := append(parentsOf(8), all(8))
	refused(t, "many, a parent twice, who", commitOf(api.Commit{Parents: twice, Who: "\n", Time: math.MaxUint64}), api.ErrObjectMany)
	refused(t, "a parent twice, who", commitOf(api.Commit{Parents: twice[7:], Who: "\n"}), api.ErrObjectText)
	bad := api.Tag{Kind: 9, Name: "..", Who: "\xff", Time: 1 << 50, Text: strings.Repeat("x", 70000)}
	refused(t, "kind, name, who, time, text", tagOf(bad), api.ErrObjectKind)
	bad.Kind = api.KindTag
	refused(t, "name, who, time, text", tagOf(bad), api.ErrObjectName)
	bad.Name = "a"
	refused(t, "who, time, text, long", tagOf(bad), api.ErrObjectText)
	refused(t, "text, long", commitOf(api.Commit{Text: strings.Repeat("x", 70000)}), api.ErrObjectText)
}

func TestWhatBelongsToOtherKindsIsNotLookedAt(t *testing.T) { // P3.1, P3.2, P3.3
	wrong := api.Object{
		Blob:    make([]byte, 70000),
		Entries: []api.Entry{{Mode: 9, Name: "/"}},
		Commit:  api.Commit{Tree: all(1), Parents: parentsOf(20), Who: "\n", Time: math.MaxUint64, Text: strings.Repeat("x", 5000)},
		Tag:     api.Tag{Target: all(2), Kind: 9, Name: "..", Who: "\n", Time: math.MaxUint64, Text: strings.Repeat("x", 5000)},
	}
	for text, o := range samples() {
		mixed := wrong
		mixed.Kind = o.Kind
		switch o.Kind {
		case api.KindBlob:
			mixed.Blob = o.Blob
		case api.KindTree:
			mixed.Entries = o.Entries
		case api.KindCommit:
			mixed.Commit = o.Commit
		case api.KindTag:
			mixed.Tag = o.Tag
		}
		b := encoded(t, mixed)
		if !bytes.Equal(b, unhexed(t, text)) {
			t.Errorf("Encode looks at what is of another kind: %x", b)
		}
		if back, e := Parse(b); e != api.OK || !same(back, o) {
			t.Errorf("Parse(%x): %+v, %v", b, back, e)
		}
	}
}

func TestEncodingsCutShort(t *testing.T) { // P3.2
	for text, o := range samples() {
		b := unhexed(t, text)
		for n := range b {
			switch {
			case n == 0:
				notRead(t, "nothing is left", b[:n], api.ErrObjectKind)
			case o.Kind != api.KindBlob:
				notRead(t, fmt.Sprint("cut at ", n), b[:n], api.ErrObjectBytes)
			}
		}
		for _, more := range []byte{0, 1, 0x80, 0xff} {
			if o.Kind != api.KindBlob {
				notRead(t, "a byte behind", append(bytes.Clone(b), more), api.ErrObjectBytes)
			}
		}
	}
}

func TestNumbersInALongerForm(t *testing.T) { // P3.2, R5
	id := strings.Repeat(" 00", 32)
	for _, right := range []string{
		"02 |01| 01 |01| 61" + id,
		"02 |00|",
		"03" + id + " |00| |02| 6d 65 00 00 00 00 00 00 00 05 |01| 78",
		"03" + id + " |01|" + id + " |00| 00 00 00 00 00 00 00 00 |00|",
		"04" + id + " 01 |02| 76 31 |00| 00 00 00 00 00 00 00 00 |00|",
	} {
		parts := strings.Split(right, "|")
		if _, e := Parse(unhexed(t, strings.Join(parts, ""))); e != api.OK {
			t.Fatalf("%s: %v", right, e)
		}
		for i := 1; i < len(parts); i += 2 {
			for _, end := range []string{" 00", " 80 00", " 80 80 80 80 80 80 80 80 00"} {
				longer := slices.Clone(parts)
				longer[i] = "8" + parts[i][1:] + end
				notRead(t, "a longer form", unhexed(t, strings.Join(longer, "")), api.ErrObjectBytes)
			}
			for _, great := range []string{"ff ff ff ff ff ff ff ff ff 01", "ff ff ff ff ff ff ff ff ff 7f", "ff ff ff ff 0f", "81 80 80 80 10"} {
				greater := slices.Clone(parts)
				greater[i] = great
				notRead(t, "a great number", unhexed(t, strings.Join(greater, "")), api.ErrObjectBytes)
			}
		}
	}
}

// TestEncodingsOfWrongObjects lays what Encode refuses by the same steps, so that the form is right and the object alone is wrong.
func TestEncodingsOfWrongObjects(t *testing.T) { // P3.2
	var wrong []api.Object
	for _, mode := range []int{0, 5, 255} {
		wrong = append(wrong, treeOf(api.Entry{Mode: mode, Name: "a"}))
	}
	for name, good := range lines() {
		if !good || name == "" || name == "." || name == "/" {
			wrong = append(wrong, filesOf(name), tagOf(api.Tag{Kind: 1, Name: name}))
		}
		if !good {
			wrong = append(wrong, tagOf(api.Tag{Kind: 1, Name: "a", Who: name}), commitOf(api.Commit{Who: name}))
		}
	}
	for _, kind := range []int{0, 5, 255} {
		wrong = append(wrong, tagOf(api.Tag{Kind: kind, Name: "a"}))
	}
	for _, time := range []uint64{1<<40 + 1, math.MaxUint64} {
		wrong = append(wrong, tagOf(api.Tag{Kind: 1, Name: "a", Time: time}), commitOf(api.Commit{Time: time}))
	}
	long := strings.Repeat("x", 4097)
	wrong = append(wrong, tagOf(api.Tag{Kind: 1, Name: "a", Text: long}), commitOf(api.Commit{Text: long}))
	wrong = append(wrong, filesOf(".."), filesOf("b", "a"), filesOf("a", "a"), filesOf("a", "b", "b"), filesOf(numbered(1025, 4)...))
	wrong = append(wrong, commitOf(api.Commit{Parents: parentsOf(9)}), commitOf(api.Commit{Parents: make([]api.ID, 2)}))
	for _, o := range wrong {
		c, _ := contentOf(o)
		notRead(t, fmt.Sprintf("%.80s", fmt.Sprintf("%+v", o)), laid(c.write), api.ErrObjectBytes)
	}
}

// someObject tells a right object, now and then at a limit.
func someObject(r *rand.Rand) api.Object {
	id := func() (x api.ID) { r.Read(x[:]); return x }
	text := func(most int) string {
		b := make([]byte, r.Intn(most+1))
		for i := range b {
			b[i] = byte('a' + r.Intn(26))
		}
		return string(b)
	}
	who, time := text(255), uint64(r.Int63n(1<<40+1))
	switch r.Intn(4) {
	case 0:
		b := make([]byte, r.Intn(300))
		r.Read(b)
		return blobOf(b)
	case 1:
		names := map[string]bool{}
		for range r.Intn(40) {
			names["n"+text(20)] = true
		}
		o := treeOf()
		for name := range names {
			o.Entries = append(o.Entries, api.Entry{Mode: 1 + r.Intn(4), Name: name, ID: id()})
		}
		slices.SortFunc(o.Entries, func(a, b api.Entry) int { return strings.Compare(a.Name, b.Name) })
		return o
	case 2:
		c := api.Commit{Tree: id(), Who: who, Time: time, Text: text(4096)}
		for range r.Intn(9) {
			c.Parents = append(c.Parents, id())
		}
		return commitOf(c)
	}
	return tagOf(api.Tag{Target: id(), Kind: 1 + r.Intn(4), Name: "n" + text(254), Who: who, Time: time, Text: text(4096)})
}

func TestThereAndBack(t *testing.T) { // P3.3
	r := rand.New(rand.NewSource(3))
	for range 2000 {
		thereAndBack(t, "an object", someObject(r))
	}
}

func TestWhatIsReadIsWrittenTheSame(t *testing.T) { // P3.3, P3.7, R5
	r := rand.New(rand.NewSource(33))
	taken := 0
	for range 30000 {
		b := encoded(t, someObject(r))
		if r.Intn(4) == 0 {
			b = b[:r.Intn(len(b)+1)]
		}
		for range 1 + r.Intn(2) {
			if len(b) > 0 {
				// The beginning is where the numbers stand.
				b[r.Intn(min(len(b), 1+r.Intn(len(b))))] = byte(r.Intn(256))
			}
		}
		o, e := Parse(b)
		links, childError := Children(b)
		if childError != e || len(links) > 0 && e != api.OK {
			t.Fatalf("Parse and Children of %x: %v, %v", b, e, childError)
		}
		if e != api.OK {
			continue
		}
		taken++
		if back, e := Encode(o); e != api.OK || !bytes.Equal(back, b) {
			t.Fatalf("%x is taken, and written as %x, %v", b, back, e)
		}
	}
	if taken < 1000 {
		t.Errorf("only %d are taken", taken)
	}
}

func TestAnyBytesAreAnswered(t *testing.T) { // P3.7, R5
	r := rand.New(rand.NewSource(37))
	for range 50000 {
		b := make([]byte, r.Intn(60))
		for i := range b {
			b[i] = byte(r.Intn(256) >> r.Intn(8))
		}
		o, e := Parse(b)
		if back, wrong := Encode(o); e == api.OK && (wrong != api.OK || !bytes.Equal(back, b)) {
			t.Fatalf("%x is taken, and written as %x, %v", b, back, wrong)
		}
		if e != api.OK && !same(o, api.Object{}) {
			t.Fatalf("%x: an object beside %v", b, e)
		}
	}
}

func TestId(t *testing.T) { // P3.4
	for _, b := range [][]byte{nil, {}, {0}, {1}, []byte("any bytes"), make([]byte, 70000)} {
		if Id(b) != digest.Sum(b) {
			t.Errorf("Id of %d bytes: %x", len(b), Id(b))
		}
	}
	if id := Id(encoded(t, treeOf())); id != api.ID(sha256.Sum256([]byte{2, 0})) {
		t.Errorf("Id of the empty tree: %x", id)
	}
}

func TestKind(t *testing.T) { // P3.4
	for text, o := range samples() {
		b := unhexed(t, text)
		if Kind(b) != o.Kind {
			t.Errorf("Kind(%x): %d", b, Kind(b))
		}
	}
	if Kind([]byte{2}) != api.KindNone || Kind([]byte{5}) != api.KindNone || Kind(nil) != api.KindNone {
		t.Error("a kind of what is no encoding")
	}
}

func TestChildren(t *testing.T) { // P3.5
	for _, c := range []struct {
		what string
		o    api.Object
		want []api.Link
	}{
		{"a blob", blobOf([]byte("x")), nil},
		{"the empty tree", treeOf(), nil},
		{"a tree", treeOf(
			api.Entry{Mode: api.ModeFile, Name: "a", ID: all(9)}, api.Entry{Mode: api.ModeTree, Name: "b", ID: all(2)},
			api.Entry{Mode: api.ModeLink, Name: "c", ID: all(9)}, api.Entry{Mode: api.ModeRun, Name: "d", ID: all(2)}, api.Entry{Mode: api.ModeFile, Name: "e"}),
			[]api.Link{{ID: all(9), Kind: 1}, {ID: all(2), Kind: 2}, {ID: all(9), Kind: 1}, {ID: all(2), Kind: 1}, {Kind: 1}}},
		{"a commit without parents", commitOf(api.Commit{Tree: all(5)}), []api.Link{{ID: all(5), Kind: 2}}},
		{"a commit", commitOf(api.Commit{Tree: all(5), Parents: []api.ID{all(8), all(5), all(7)}}),
			[]api.Link{{ID: all(5), Kind: 2}, {ID: all(8), Kind: 3}, {ID: all(5), Kind: 3}, {ID: all(7), Kind: 3}}},
		{"a tag of a blob", tagOf(api.Tag{Target: all(6), Kind: 1, Name: "t"}), []api.Link{{ID: all(6), Kind: 1}}},
		{"a tag of a tree", tagOf(api.Tag{Target: all(6), Kind: 2, Name: "t"}), []api.Link{{ID: all(6), Kind: 2}}},
		{"a tag of a commit", tagOf(api.Tag{Target: all(6), Kind: 3, Name: "t"}), []api.Link{{ID: all(6), Kind: 3}}},
		{"a tag of a tag", tagOf(api.Tag{Target: all(6), Kind: 4, Name: "t"}), []api.Link{{ID: all(6), Kind: 4}}},
	} {
		if links, e := Children(encoded(t, c.o)); e != api.OK || !slices.Equal(links, c.want) {
			t.Errorf("Children of %s: %v, %v", c.what, links, e)
		}
	}
	many := filesOf(numbered(1024, 4)...)
	if links, e := Children(encoded(t, many)); e != api.OK || len(links) != 1024 || links[1023] != (api.Link{ID: all(255), Kind: 1}) {
		t.Errorf("Children of 1024 entries: %d, %v", len(links), e)
	}
}

// roomy tells a copy of a list with marked spare room behind its end, and the whole of it.
func roomy[T any](list []T, mark T) (piece, whole []T) {
	whole = slices.Clone(list)
	for range 40 {
		whole = append(whole, mark)
	}
	return whole[:len(list)], whole
}

func TestEncodeLeavesWhatIsHandedIn(t *testing.T) { // P3.7, R2
	blob, blobRoom := roomy([]byte("abc"), 0xee)
	entries, entryRoom := roomy(filesOf("a", "b").Entries, api.Entry{Mode: 77})
	parents, parentRoom := roomy(parentsOf(3), all(0xee))
	blobWas, entriesWas, parentsWas := slices.Clone(blobRoom), slices.Clone(entryRoom), slices.Clone(parentRoom)
	for kind := api.KindBlob; kind <= api.KindCommit; kind++ {
		o := api.Object{Kind: kind, Blob: blob, Entries: entries, Commit: api.Commit{Parents: parents}}
		b := encoded(t, o)
		was := slices.Clone(b)
		for i := range b[:cap(b)] {
			b[:cap(b)][i] = 0xaa
		}
		if !bytes.Equal(blobRoom, blobWas) || !slices.Equal(entryRoom, entriesWas) || !slices.Equal(parentRoom, parentsWas) {
			t.Fatalf("Encode of kind %d changes what is handed in, or shares it", kind)
		}
		if !bytes.Equal(encoded(t, o), was) {
			t.Errorf("Encode of kind %d keeps what it answers", kind)
		}
	}
}

func TestReadersLeaveWhatIsHandedIn(t *testing.T) { // P3.7, R2
	for text, want := range samples() {
		b, whole := roomy(unhexed(t, text), 0xee)
		was := slices.Clone(whole)
		first, _ := Parse(b)
		second, _ := Parse(b)
		links, _ := Children(b)
		linksWere := slices.Clone(links)
		again, _ := Children(b)
		Kind(b)
		Id(b)
		spoil(first.Blob, 0xaa)
		spoil(first.Entries, api.Entry{Mode: 88})
		spoil(first.Commit.Parents, all(0xaa))
		spoil(again, api.Link{Kind: 88})
		if !bytes.Equal(whole, was) {
			t.Errorf("%s: what is handed in is changed, or shared", text)
		}
		spoil(whole, 0x55)
		if !same(second, want) {
			t.Errorf("%s: what is answered is shared: %+v", text, second)
		}
		if !reflect.DeepEqual(links, linksWere) {
			t.Errorf("%s: links are shared", text)
		}
	}
}

// spoil overwrites a list with the spare room behind its end.
func spoil[T any](list []T, with T) {
	list = list[:cap(list)]
	for i := range list {
		list[i] = with
	}
}

func TestGreatObjectsTakeNoMemory(t *testing.T) { // R6
	great := make([]byte, 1<<26)
	text := string(great)
	entries := make([]api.Entry, 1<<20)
	names := filesOf(text)
	took := memory(func() {
		Encode(blobOf(great))
		Encode(names)
		Encode(api.Object{Kind: api.KindTree, Entries: entries})
		Encode(commitOf(api.Commit{Who: text}))
		Encode(commitOf(api.Commit{Text: text}))
		Encode(tagOf(api.Tag{Kind: 1, Name: text}))
		Parse(great)
		Children(great)
		Kind(great)
	})
	if took > 1<<20 {
		t.Errorf("%d bytes are taken for what is refused", took)
	}
}

// memory tells how many bytes are taken while something is done.
func memory(do func()) uint64 {
	var before, behind runtime.MemStats
	runtime.ReadMemStats(&before)
	do()
	runtime.ReadMemStats(&behind)
	return behind.TotalAlloc - before.TotalAlloc
}
