package disk

import (
	"fmt"
	"math"
	"slices"
	"strings"
	"testing"

	"satchel/api"
)

// fresh tells a new disk.
func fresh(t *testing.T, room int) *Disk {
	t.Helper()
	d, e := New(room)
	if e != api.OK || d == nil {
		t.Fatalf("New(%d): %v, %d", room, d, e)
	}
	return d
}

// image tells files by words like "a=xyz", or "a" for one without bytes.
func image(words ...string) []api.FileBytes {
	var img []api.FileBytes
	for _, w := range words {
		name, data, _ := strings.Cut(w, "=")
		img = append(img, api.FileBytes{Name: name, Data: []byte(data)})
	}
	return img
}

// told tells an image in words.
func told(img []api.FileBytes) string {
	var words []string
	for _, f := range img {
		words = append(words, f.Name+"="+string(f.Data))
	}
	return strings.Join(words, " ")
}

// loaded tells a disk with files that are safe.
func loaded(t *testing.T, room int, words ...string) *Disk {
	t.Helper()
	d, e := Load(image(words...), room)
	if e != api.OK || d == nil {
		t.Fatalf("Load(%q, %d): %v, %d", words, room, d, e)
	}
	return d
}

func answers(t *testing.T, what string, e, want api.Errno) {
	t.Helper()
	if e != want {
		t.Errorf("%s: answers %d, want %d", what, e, want)
	}
}

func must(t *testing.T, e api.Errno) {
	t.Helper()
	answers(t, "a call", e, api.OK)
}

// put appends a text.
func put(t *testing.T, d *Disk, name, text string) {
	t.Helper()
	answers(t, "Append to "+name, d.Append(name, []byte(text)), api.OK)
}

// seenOf tells in words what Read, Size and List tell.
func seenOf(t *testing.T, d *Disk) string {
	t.Helper()
	list, e := d.List()
	answers(t, "List", e, api.OK)
	var img []api.FileBytes
	for _, name := range list {
		b, e := d.Read(name)
		answers(t, "Read of "+name, e, api.OK)
		n, e := d.Size(name)
		answers(t, "Size of "+name, e, api.OK)
		if n != len(b) {
			t.Errorf("Size of %s is %d, of %d bytes", name, n, len(b))
		}
		img = append(img, api.FileBytes{Name: name, Data: b})
	}
	return told(img)
}

func seen(t *testing.T, d *Disk, want string) {
	t.Helper()
	if got := seenOf(t, d); got != want {
		t.Errorf("seen is %q, want %q", got, want)
	}
}

func crash(t *testing.T, d *Disk, want string, picks ...int) {
	t.Helper()
	if got := told(d.Crash(picks)); got != want {
		t.Errorf("Crash(%v) tells %q, want %q", picks, got, want)
	}
}

func strokes(t *testing.T, d *Disk, want int) {
	t.Helper()
	if n := d.Strokes(); n != want {
		t.Errorf("%d strokes, want %d", n, want)
	}
}

func TestExample1And2(t *testing.T) {
	d := fresh(t, 10)
	answers(t, "Append a", d.Append("a", []byte("xyz")), api.OK)
	answers(t, "Append b", d.Append("b", make([]byte, 8)), api.ErrDiskFull)
	answers(t, "Append A", d.Append("A", nil), api.ErrDiskName)
	_, e := d.Read("b")
	answers(t, "Read b", e, api.ErrDiskNone)
	seen(t, d, "a=xyz")
	strokes(t, d, 2)
	crash(t, d, "")
	crash(t, d, "a=", 1)
	crash(t, d, "a=xy", 1, 2)
	crash(t, d, "a=xyz", -1, -1)
	answers(t, "Append a", d.Append("a", []byte("q")), api.OK)
	seen(t, d, "a=xyzq")
}

func TestExample3(t *testing.T) {
	d := fresh(t, 10)
	put(t, d, "a", "xyz")
	must(t, d.SyncNames())
	must(t, d.Sync("a"))
	must(t, d.Cut("a", 1))
	put(t, d, "a", "qq")
	crash(t, d, "a=xyz", 0)
	crash(t, d, "a=x", 0, 1)
	crash(t, d, "a=xq", 0, 2)
	crash(t, d, "a=xqq", 0, 3)
	crash(t, d, "a=xyz", 0, 4)
}

func TestExample4(t *testing.T) {
	d := loaded(t, 10, "a=old")
	put(t, d, "t", "new")
	must(t, d.Sync("t"))
	must(t, d.SyncNames())
	must(t, d.Rename("t", "a"))
	crash(t, d, "a=old t=new", 0)
	crash(t, d, "a=new", 1)
}

func TestExample5(t *testing.T) {
	d := fresh(t, 10)
	d.Plan(api.Plan{Off: 2})
	answers(t, "Append x", d.Append("a", []byte("x")), api.OK)
	answers(t, "Append y", d.Append("a", []byte("y")), api.ErrDiskOff)
	_, e := d.Read("a")
	answers(t, "Read", e, api.ErrDiskOff)
	crash(t, d, "a=xy", 1, 2)
	d = fresh(t, 10)
	d.Plan(api.Plan{FullFrom: 2, FullTo: 2})
	answers(t, "Append x", d.Append("a", []byte("x")), api.OK)
	answers(t, "Append y", d.Append("a", []byte("y")), api.ErrDiskFull)
	answers(t, "Append z", d.Append("a", []byte("z")), api.OK)
	seen(t, d, "a=xz")
}

func TestExample6(t *testing.T) {
	d := fresh(t, 10)
	put(t, d, "a", "xy")
	must(t, d.SyncNames())
	d.Plan(api.Plan{Off: 1})
	answers(t, "Sync", d.Sync("a"), api.ErrDiskOff)
	crash(t, d, "a=", 0, 0)
	crash(t, d, "a=x", 0, 1)
	crash(t, d, "a=xy", 0, 2)
}

func TestExample7(t *testing.T) {
	for _, words := range [][]string{{"b", "a"}, {"a=12345678901"}} {
		if d, e := Load(image(words...), 10); d != nil || e != api.ErrDiskImage {
			t.Errorf("Load(%q): %v, %d", words, d, e)
		}
	}
}

func TestNew(t *testing.T) { // P11.1
	for _, room := range []int{-1, api.MaxRoom + 1, math.MinInt, math.MaxInt} {
		if d, e := New(room); d != nil || e != api.ErrDiskRoom {
			t.Errorf("New(%d): %v, %d", room, d, e)
		}
		for _, img := range [][]api.FileBytes{nil, image("a"), image("b", "a")} { // P11.2: the room comes first
			if d, e := Load(img, room); d != nil || e != api.ErrDiskRoom {
				t.Errorf("Load(%s, %d): %v, %d", told(img), room, d, e)
			}
		}
	}
	for _, room := range []int{0, 1, 10, api.MaxRoom} {
		for _, d := range []*Disk{fresh(t, room), loaded(t, room)} {
			if d.Room() != room {
				t.Errorf("Room: %d, want %d", d.Room(), room)
			}
			seen(t, d, "")
			strokes(t, d, 0)
			crash(t, d, "", 1, 2, 3)
		}
	}
}

func TestRoomOfNothing(t *testing.T) { // P11.1, P11.4
	d := fresh(t, 0)
	put(t, d, "a", "")
	answers(t, "Append of a byte", d.Append("a", []byte("x")), api.ErrDiskFull)
	answers(t, "Append of a byte", d.Append("b", []byte("x")), api.ErrDiskFull)
	seen(t, d, "a=")
	if d, e := Load(image("a=x"), 0); d != nil || e != api.ErrDiskImage {
		t.Errorf("Load of a byte: %v, %d", d, e)
	}
}

func TestGreatestRoom(t *testing.T) { // P11.1, P11.2, P11.4
	d := fresh(t, api.MaxRoom)
	half := make([]byte, api.MaxRoom/2)
	must(t, d.Append("a", half))
	answers(t, "half and one more", d.Append("b", make([]byte, api.MaxRoom/2+1)), api.ErrDiskFull)
	must(t, d.Append("b", half))
	answers(t, "one more", d.Append("c", []byte("x")), api.ErrDiskFull)
	must(t, d.Append("c", nil))
	img := d.Crash([]int{-1, -1, -1})
	if len(img) != 3 || len(img[0].Data) != api.MaxRoom/2 || len(img[1].Data) != api.MaxRoom/2 {
		t.Fatalf("Crash tells %d files", len(img))
	}
	if _, e := Load(img, api.MaxRoom); e != api.OK {
		t.Errorf("Load: %d", e)
	}
	if d, e := Load(img, api.MaxRoom-1); d != nil || e != api.ErrDiskImage {
		t.Errorf("Load into one byte less: %v, %d", d, e)
	}
}

// numbered tells so many files of a byte each, sorted.
func numbered(n int) []api.FileBytes {
	var img []api.FileBytes
	for i := range n {
		img = append(img, api.FileBytes{Name: fmt.Sprintf("f%03d", i), Data: []byte{'x'}})
	}
	return img
}

func TestLoadRefuses(t *testing.T) { // P11.2
	long := strings.Repeat("n", 65)
	swapped := numbered(5)
	swapped[3], swapped[4] = swapped[4], swapped[3]
	for _, img := range [][]api.FileBytes{
		image("b", "a"), image("a=x", "c", "b"), swapped, image("ab", "a"), image("a", "-"),
		image("a", "a"), image("a=x", "a=y"), image("a", "b", "b", "c"),
		image(""), image("", "a"), image("A"), image("a/b"), image("a", "b\x00"), image("a", long), image("a b"), image("\xc3\xa9"),
		image("a=12345678901"), image("a=123456", "b=12345"), image("a", "b=1234567890", "c=1"),
		numbered(api.MaxDisk + 1), numbered(1000),
	} {
		room := 10
		if len(img) > api.MaxDisk {
			room = 1000
		}
		if d, e := Load(img, room); d != nil || e != api.ErrDiskImage {
			t.Errorf("Load(%s): %v, %d", told(img), d, e)
		}
	}
}

func TestLoad(t *testing.T) { // P11.2, P11.13
	name := strings.Repeat("n", 64)
	for _, img := range [][]api.FileBytes{
		nil, {}, image("a"), image("a=1234567890"), image("a=12345", "b=67890"), image("-", ".", "0", "9", "_", "a", "a-", "a.", "a0", "a_", "aa", "z"),
		image(name + "=x"), {{Name: "a", Data: nil}, {Name: "b", Data: []byte{}}}, image("a", "b=\x00\xff", "c"),
	} {
		d, e := Load(img, 10)
		if e != api.OK {
			t.Fatalf("Load(%s): %d", told(img), e)
		}
		seen(t, d, told(img))
		strokes(t, d, 0)
		for _, picks := range [][]int{nil, {0}, {1, 1, 1}, {-1, -1, -1, -1}, {math.MaxInt, math.MinInt, 7}} {
			crash(t, d, told(img), picks...)
		}
		must(t, d.SyncNames()) // its power is on
	}
	d, e := Load(numbered(api.MaxDisk), api.MaxDisk)
	answers(t, "Load of MaxDisk", e, api.OK)
	crash(t, d, told(numbered(api.MaxDisk)))
	answers(t, "Append to another", d.Append("g", nil), api.ErrDiskName)
	answers(t, "Append of one more byte", d.Append("f000", []byte("x")), api.ErrDiskFull)
	answers(t, "Append of nothing", d.Append("f000", nil), api.OK)
}

func TestLoadOfACrashedDisk(t *testing.T) { // P11.2, P11.3: what is left goes on on another disk
	d := fresh(t, 10)
	d.Plan(api.Plan{Off: 3, FullFrom: 4, FullTo: 9})
	put(t, d, "a", "x")
	must(t, d.SyncNames())
	answers(t, "Sync", d.Sync("a"), api.ErrDiskOff)
	next, e := Load(d.Crash([]int{0, 1}), 10)
	answers(t, "Load", e, api.OK)
	strokes(t, next, 0)
	for range 9 { // no plan
		put(t, next, "a", "y")
	}
	seen(t, next, "a=xyyyyyyyyy")
	strokes(t, d, 3)
}

// callsOf tells every call that takes a name, with that name.
func callsOf(d *Disk, name string) map[string]func() api.Errno {
	return map[string]func() api.Errno{
		"Append":      func() api.Errno { return d.Append(name, nil) },
		"Cut":         func() api.Errno { return d.Cut(name, 0) },
		"Sync":        func() api.Errno { return d.Sync(name) },
		"Rename from": func() api.Errno { return d.Rename(name, "other") },
		"Rename to":   func() api.Errno { return d.Rename("there", name) },
		"Remove":      func() api.Errno { return d.Remove(name) },
		"Read": func() api.Errno {
			b, e := d.Read(name)
			if e != api.OK && b != nil {
				return -1
			}
			return e
		},
		"Size": func() api.Errno {
			n, e := d.Size(name)
			if e != api.OK && n != 0 {
				return -1
			}
			return e
		},
	}
}

func TestNames(t *testing.T) { // what a file name is, in every call that takes one
	right := []string{strings.Repeat("n", 64), strings.Repeat("-", 64), "a.b", "..", ".", "-", "_", "0", "j.new"}
	wrong := []string{"", strings.Repeat("n", 65), strings.Repeat("n", 1000), "\u00e9", "a\u00e9", "\xff\xfe", "a/b", "a b", " ", "aB", "a\n"}
	for b := range 256 {
		for _, name := range []string{string([]byte{byte(b)}), "x" + string([]byte{byte(b)}), string([]byte{byte(b)}) + "x", "x" + string([]byte{byte(b)}) + "x"} {
			if strings.IndexByte("abcdefghijklmnopqrstuvwxyz0123456789.-_", byte(b)) >= 0 {
				right = append(right, name)
			} else {
				wrong = append(wrong, name)
			}
		}
	}
	d := loaded(t, 10, "there=x")
	for _, name := range wrong {
		for what, call := range callsOf(d, name) {
			if e := call(); e != api.ErrDiskName {
				t.Errorf("%s of %q: %d", what, name, e)
			}
		}
		answers(t, "Cut to a length that may not be", d.Cut(name, -1), api.ErrDiskName)
		answers(t, "Rename of a file that is not there", d.Rename("none", name), api.ErrDiskName)
		answers(t, "Append without room", d.Append(name, make([]byte, 11)), api.ErrDiskName)
		if d, e := Load([]api.FileBytes{{Name: name}}, 10); d != nil || e != api.ErrDiskImage {
			t.Errorf("Load of %q: %v, %d", name, d, e)
		}
	}
	strokes(t, d, 0)
	seen(t, d, "there=x")
	for _, name := range right {
		for what := range callsOf(d, name) {
			d := loaded(t, 10, "there=x")
			put(t, d, name, "y")
			if e := callsOf(d, name)[what](); e != api.OK {
				t.Errorf("%s of %q: %d", what, name, e)
			}
		}
		if _, e := Load(image(name), 10); e != api.OK {
			t.Errorf("Load of %q: %d", name, e)
		}
	}
}

func TestNoSuchFile(t *testing.T) { // P11.5 to P11.8
	d := loaded(t, 10, "there=x")
	for _, name := range []string{"none", "ther", "theree", "b"} {
		for what, call := range callsOf(d, name) {
			if what != "Append" && what != "Rename to" {
				answers(t, what+" of "+name, call(), api.ErrDiskNone)
			}
		}
		answers(t, "Cut below 0", d.Cut(name, -1), api.ErrDiskNone)
		answers(t, "Rename onto itself", d.Rename(name, name), api.ErrDiskNone)
	}
	strokes(t, d, 0)
	seen(t, d, "there=x")
	crash(t, d, "there=x", -1, -1)
}

func TestListIsSorted(t *testing.T) { // P11.8, R9
	d := fresh(t, 10)
	names := []string{"b", "a", "aa", "a.", "z", "0", "_", "-", ".", "a-b", "ab"}
	for _, name := range names {
		put(t, d, name, "")
	}
	slices.Sort(names)
	if list, e := d.List(); e != api.OK || !slices.Equal(list, names) {
		t.Errorf("List: %q, %d", list, e)
	}
	var img []string
	for _, f := range d.Crash([]int{-1}) {
		img = append(img, f.Name)
	}
	if !slices.Equal(img, names) {
		t.Errorf("Crash: %q", img)
	}
}
