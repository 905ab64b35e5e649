package journal

import (
	"crypto/sha256"
	"encoding/binary"
	"fmt"
	"strings"
	"testing"

	"satchel/api"
	"satchel/disk"
)

const room = 2000 // of the tests' disks: enough for all that isn't said to be long

func parts(texts ...string) [][]byte {
	var list [][]byte
	for _, s := range texts {
		list = append(list, []byte(s))
	}
	return list
}

// bodied tells a body by the chapter's words.
func bodied(number uint64, texts ...string) string {
	b := binary.BigEndian.AppendUint64(nil, number)
	b = binary.BigEndian.AppendUint32(b, uint32(len(texts)))
	for _, s := range texts {
		b = binary.AppendUvarint(b, uint64(len(s)))
		b = append(b, s...)
	}
	return string(b)
}

// framed lays head and tail around a body.
func framed(body string) string {
	b := binary.BigEndian.AppendUint32([]byte{0xa7}, uint32(len(body)))
	return resealed(string(b) + body)
}

// resealed lays a tail behind head and body.
func resealed(b string) string {
	sum := sha256.Sum256([]byte(b))
	return b + string(sum[:]) + "\x5a"
}

func rec(number uint64, texts ...string) string { return framed(bodied(number, texts...)) }

// image tells files by turns of a name and its bytes.
func image(words ...string) []api.FileBytes {
	var img []api.FileBytes
	for i := 0; i < len(words); i += 2 {
		img = append(img, api.FileBytes{Name: words[i], Data: []byte(words[i+1])})
	}
	return img
}

// told tells an image as a text, so that two may be held against each other.
func told(img []api.FileBytes) string {
	var words []string
	for _, f := range img {
		words = append(words, fmt.Sprintf("%s=%x", f.Name, f.Data))
	}
	return strings.Join(words, " ")
}

func loaded(t *testing.T, room int, img []api.FileBytes) *disk.Disk {
	t.Helper()
	d, e := disk.Load(img, room)
	if e != api.OK {
		t.Fatalf("Load: %d", e)
	}
	return d
}

// seen tells the image of all that is seen.
func seen(d *disk.Disk) []api.FileBytes {
	var img []api.FileBytes
	list, _ := d.List()
	for _, name := range list {
		b, _ := d.Read(name)
		img = append(img, api.FileBytes{Name: name, Data: b})
	}
	return img
}

func opened(t *testing.T, d *disk.Disk, name string) *Journal {
	t.Helper()
	j, e := Open(d, name)
	if e != api.OK || j == nil {
		t.Fatalf("Open(%q): %v, %d", name, j, e)
	}
	return j
}

// over tells a disk with files by turns of name and bytes, and the journal j on it.
func over(t *testing.T, words ...string) (*disk.Disk, *Journal) {
	t.Helper()
	d := loaded(t, room, image(words...))
	return d, opened(t, d, "j")
}

// state tells the transactions and their numbers.
func state(j *Journal) string { return fmt.Sprintf("%q before %d", j.All(), j.Next()) }

func holds(t *testing.T, what string, j *Journal, want string, torn bool) {
	t.Helper()
	if got := state(j); got != want || j.Torn() != torn || j.Len() != len(j.All()) {
		t.Errorf("%s: %s, torn %v, Len %d; want %s, torn %v", what, got, j.Torn(), j.Len(), want, torn)
	}
}

func answers(t *testing.T, what string, e, want api.Errno) {
	t.Helper()
	if e != want {
		t.Errorf("%s: answers %d, want %d", what, e, want)
	}
}

func strokes(t *testing.T, what string, d *disk.Disk, want int) {
	t.Helper()
	if n := d.Strokes(); n != want {
		t.Errorf("%s: %d strokes, want %d", what, n, want)
	}
}

func files(t *testing.T, what string, d *disk.Disk, words ...string) {
	t.Helper()
	if got, want := told(seen(d)), told(image(words...)); got != want {
		t.Errorf("%s: the disk holds %s, want %s", what, got, want)
	}
}

// crashed tells a disk with what a crash leaves, and the journal j on it.
func crashed(t *testing.T, d *disk.Disk, picks ...int) (*disk.Disk, *Journal) {
	t.Helper()
	d = loaded(t, 2*room, d.Crash(picks))
	return d, opened(t, d, "j")
}

func TestExample1And5(t *testing.T) {
	d, j := over(t)
	holds(t, "a new one", j, `[] before 1`, false)
	answers(t, "Add of a", j.Add(parts("a")), api.OK)
	strokes(t, "Add of a", d, 3)
	answers(t, "Add of b, cd", j.Add(parts("b", "cd")), api.OK)
	strokes(t, "Add of b, cd", d, 5)
	holds(t, "behind both", j, `[["a"] ["b" "cd"]] before 3`, false)
	files(t, "behind both", d, "j", rec(1, "a")+rec(2, "b", "cd"))
	if n, _ := d.Size("j"); n != 107 {
		t.Errorf("the file has %d bytes", n)
	}
	answers(t, "Add of no parts", j.Add(nil), api.OK)
	if n, _ := d.Size("j"); n != 107+38+12 {
		t.Errorf("with no parts the file has %d bytes", n)
	}
	answers(t, "Add of 8193 parts", j.Add(make([][]byte, 8193)), api.ErrJournalLong)
	holds(t, "behind all", j, `[["a"] ["b" "cd"] []] before 4`, false)
	strokes(t, "behind all", d, 7)
}

func TestExample2(t *testing.T) {
	d, j := over(t)
	answers(t, "Add of a", j.Add(parts("a")), api.OK)
	d.Plan(api.Plan{Off: 1})
	answers(t, "Add of b, cd", j.Add(parts("b", "cd")), api.ErrDiskOff)
	_, k := crashed(t, d, 0, 55)
	holds(t, "all kept", k, `[["a"] ["b" "cd"]] before 3`, false)
	d, k = crashed(t, d, 0, 54)
	holds(t, "54 kept", k, `[["a"]] before 2`, true)
	answers(t, "Add of z", k.Add(parts("z")), api.OK)
	strokes(t, "Add of z", d, 4)
	holds(t, "behind z", k, `[["a"] ["z"]] before 3`, false)
	files(t, "behind z", d, "j", rec(1, "a")+rec(2, "z"))
}

func TestExample3(t *testing.T) {
	d, j := over(t, "j", rec(1, "a")+rec(2, "b", "cd"))
	answers(t, "Checkpoint", j.Checkpoint(parts("s")), api.OK)
	strokes(t, "Checkpoint", d, 4)
	holds(t, "Checkpoint", j, `[["s"]] before 4`, false)
	files(t, "Checkpoint", d, "j", rec(3, "s"))

	d, j = over(t, "j", rec(1, "a")+rec(2, "b", "cd"))
	d.Plan(api.Plan{Off: 3})
	answers(t, "the power off at the Rename", j.Checkpoint(parts("s")), api.ErrDiskOff)
	d, j = crashed(t, d, 1) // the second file's name is kept, the Rename isn't
	holds(t, "opened", j, `[["a"] ["b" "cd"]] before 3`, false)
	files(t, "opened", d, "j", rec(1, "a")+rec(2, "b", "cd"), "j.new", rec(3, "s"))
	answers(t, "the next Checkpoint", j.Checkpoint(parts("t")), api.OK)
	strokes(t, "the next Checkpoint", d, 5)
	files(t, "the next Checkpoint", d, "j", rec(3, "t"))
}

func TestExample4(t *testing.T) {
	d := loaded(t, 110, image("fill", "1234567890"))
	j := opened(t, d, "j")
	answers(t, "Add of a", j.Add(parts("a")), api.OK)
	answers(t, "Add without room", j.Add(parts("b")), api.ErrDiskFull)
	holds(t, "without room", j, `[["a"]] before 2`, false)
	answers(t, "Remove", d.Remove("fill"), api.OK)
	answers(t, "Add with room", j.Add(parts("b")), api.OK)
	holds(t, "with room", j, `[["a"] ["b"]] before 3`, false)
}

func TestExample6(t *testing.T) {
	_, j := over(t, "j", rec(5, "a")+rec(6)+rec(8, "c"))
	holds(t, "5, 6, 8", j, `[["a"] []] before 7`, true)
}

func TestOpenNames(t *testing.T) { // P12.1
	right := []string{strings.Repeat("n", 60), strings.Repeat("-", 60), ".", "..", "-", "_", "j.new", "a.-_09z"}
	wrong := []string{"", strings.Repeat("n", 61), strings.Repeat("n", 64), strings.Repeat("n", 65), strings.Repeat("n", 1000), "a/b", "J", "a b", "\u00e9", "a\u00e9", "\xff", "a\x00", "a\n"}
	for b := range 256 {
		for _, name := range []string{string([]byte{byte(b)}), "x" + string([]byte{byte(b)}), string([]byte{byte(b)}) + "x"} {
			if strings.IndexByte("abcdefghijklmnopqrstuvwxyz0123456789.-_", byte(b)) >= 0 {
				right = append(right, name)
			} else {
				wrong = append(wrong, name)
			}
		}
	}
	on, off := loaded(t, room, nil), loaded(t, room, nil)
	off.Plan(api.Plan{Off: 1})
	answers(t, "SyncNames", off.SyncNames(), api.ErrDiskOff)
	for _, name := range wrong {
		for _, d := range []*disk.Disk{on, off} {
			if j, e := Open(d, name); j != nil || e != api.ErrJournalName {
				t.Errorf("Open(%q): %v, %d", name, j, e)
			}
		}
	}
	for _, name := range right {
		opened(t, on, name)
		if j, e := Open(off, name); j != nil || e != api.ErrDiskOff {
			t.Errorf("Open(%q) with the power off: %v, %d", name, j, e)
		}
	}
	strokes(t, "Open", on, 0)
	strokes(t, "Open with the power off", off, 1)
}

func TestLongestName(t *testing.T) { // P12.1: the second file of the longest name can be made
	name := strings.Repeat("n", 60)
	d := loaded(t, room, nil)
	j := opened(t, d, name)
	answers(t, "Add", j.Add(parts("a")), api.OK)
	answers(t, "Checkpoint", j.Checkpoint(parts("s")), api.OK)
	files(t, "both", d, name, rec(2, "s"))
}

func TestOpenChangesNothing(t *testing.T) { // P12.1
	for _, img := range [][]api.FileBytes{
		nil, image("j", ""), image("j", "garbage"), image("j", rec(1, "a")), image("j", rec(1, "a")+"torn"),
		image("j.new", rec(1, "a")), image("a", "x", "j", rec(7)+rec(9), "j.new", "left"),
	} {
		d := loaded(t, room, img)
		opened(t, d, "j")
		strokes(t, "Open", d, 0)
		if told(seen(d)) != told(img) || told(d.Crash([]int{-1, -1, -1, -1})) != told(img) {
			t.Errorf("Open has made %s of %s", told(seen(d)), told(img))
		}
	}
}

func TestOpenReadsItsFileAlone(t *testing.T) { // P12.1: a file that isn't there is one of no bytes, whatever lies beside it
	for _, words := range [][]string{nil, {"j", ""}, {"j.new", rec(1, "a")}, {"j", "", "j.new", rec(1, "a")}, {"i", rec(1, "a"), "j.", rec(1, "a"), "jj", rec(1, "a")}} {
		d, j := over(t, words...)
		holds(t, told(image(words...)), j, `[] before 1`, false)
		answers(t, "Add", j.Add(parts("z")), api.OK)
		strokes(t, "Add", d, 3) // a file of no bytes is not torn: no Cut
		if b, _ := d.Read("j"); string(b) != rec(1, "z") {
			t.Errorf("the file is %x", b)
		}
	}
}

func TestOpenOfWhatIsNotSafeYet(t *testing.T) { // P12.1: what is seen is read; P12.2: an Add makes all of it last
	d := loaded(t, room, nil)
	answers(t, "Append", d.Append("j", []byte(rec(4, "a")+"torn")), api.OK)
	j := opened(t, d, "j")
	holds(t, "opened", j, `[["a"]] before 5`, true)
	answers(t, "Add", j.Add(parts("b")), api.OK)
	if got := told(d.Crash(nil)); got != told(image("j", rec(4, "a")+rec(5, "b"))) {
		t.Errorf("a crash leaves %s", got)
	}
}

func TestTwoJournals(t *testing.T) { // P12.7
	d := loaded(t, room, image("b", rec(7, "old")+"torn", "b.new", "left"))
	a, b := opened(t, d, "a"), opened(t, d, "b")
	answers(t, "Add to a", a.Add(parts("1")), api.OK)
	holds(t, "b", b, `[["old"]] before 8`, true)
	answers(t, "Checkpoint of a", a.Checkpoint(parts("2")), api.OK)
	holds(t, "b", b, `[["old"]] before 8`, true)
	files(t, "Checkpoint of a", d, "a", rec(2, "2"), "b", rec(7, "old")+"torn", "b.new", "left")
	n := d.Strokes()
	answers(t, "Add to b", b.Add(parts("3")), api.OK)
	strokes(t, "the first Add to b", d, n+4) // what a was answered does not count for b
	holds(t, "a", a, `[["2"]] before 3`, false)
	answers(t, "Checkpoint of b", b.Checkpoint(parts("4")), api.OK)
	files(t, "Checkpoint of b", d, "a", rec(2, "2"), "b", rec(9, "4"))
	answers(t, "Add to a", a.Add(parts("5")), api.OK)
	holds(t, "a", a, `[["2"] ["5"]] before 4`, false)
	holds(t, "b", b, `[["4"]] before 10`, false)
	d.Plan(api.Plan{Off: 1})
	answers(t, "Add to a", a.Add(parts("6")), api.ErrDiskOff)
	answers(t, "Add to a again", a.Add(parts("6")), api.ErrJournalOff)
	answers(t, "Add to b", b.Add(parts("6")), api.ErrDiskOff) // it had not met the power off itself
	answers(t, "Add to b again", b.Add(parts("6")), api.ErrJournalOff)
}
