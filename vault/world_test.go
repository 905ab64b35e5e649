package vault

import (
	"crypto/sha256"
	"encoding/binary"
	"errors"
	"fmt"
	"slices"
	"sort"
	"strings"
	"testing"

	"satchel/api"
	"satchel/disk"
	"satchel/object"
)

const room = 1000000 // of the tests' disks: enough for all that isn't said to be great

var none api.ID

func idOf(enc string) api.ID { return sha256.Sum256([]byte(enc)) }

// blobOf, treeOf, commitOf and tagOf tell encodings by chapter 3's words.
func blobOf(text string) string { return "\x01" + text }

// treeOf takes entries by turns of a mode and an id; they are called a, b and so on.
func treeOf(entries ...any) string {
	s := "\x02" + string(rune(len(entries)/2))
	for i := 0; i < len(entries); i += 2 {
		id := entries[i+1].(api.ID)
		s += string(rune(entries[i].(int))) + "\x01" + string(rune('a'+i/2)) + string(id[:])
	}
	return s
}

func commitOf(tree api.ID, text string, parents ...api.ID) string {
	s := "\x03" + string(tree[:]) + string(rune(len(parents)))
	for _, p := range parents {
		s += string(p[:])
	}
	return s + "\x02me" + "\x00\x00\x00\x00\x00\x00\x00\x05" + string(rune(len(text))) + text
}

func tagOf(target api.ID, kind int, name string) string {
	return "\x04" + string(target[:]) + string(rune(kind)) + string(rune(len(name))) + name + "\x02me" + "\x00\x00\x00\x00\x00\x00\x00\x05" + "\x00"
}

// The chapter's two objects, and one that names the first as what it is not.
var (
	blob = blobOf("hi")
	x    = idOf(blob)
	tree = treeOf(api.ModeFile, x)
	y    = idOf(tree)
	odd  = treeOf(api.ModeTree, x)
)

func txn(parts ...any) api.Txn {
	var t api.Txn
	for _, p := range parts {
		switch p := p.(type) {
		case string:
			t.Objects = append(t.Objects, []byte(p))
		case api.RefChange:
			t.Refs = append(t.Refs, p)
		case api.Note:
			t.Notes = append(t.Notes, p)
		}
	}
	return t
}

func ref(name string, old, new api.ID) api.RefChange {
	return api.RefChange{Name: name, Old: old, New: new}
}

func note(key, value string) api.Note { return api.Note{Key: key, Value: []byte(value)} }

func loaded(t *testing.T, room int, img []api.FileBytes) *disk.Disk {
	t.Helper()
	d, e := disk.Load(img, room)
	if e != api.OK {
		t.Fatalf("Load: %d", e)
	}
	return d
}

func opened(t *testing.T, d *disk.Disk) *Vault {
	t.Helper()
	v, err := Open(d)
	if err != nil || v == nil {
		t.Fatalf("Open: %v", err)
	}
	return v
}

func made(t *testing.T) (*Vault, *disk.Disk) {
	t.Helper()
	return over(t, "")
}

// over opens a vault whose journal's file has these bytes; without any there is no file.
func over(t *testing.T, file string) (*Vault, *disk.Disk) {
	t.Helper()
	d := loaded(t, api.MaxRoom, image(file))
	return opened(t, d), d
}

func image(file string) []api.FileBytes {
	if file == "" {
		return nil
	}
	return []api.FileBytes{{Name: "vault", Data: []byte(file)}}
}

// onDisk tells the bytes of the journal's file.
func onDisk(t *testing.T, d *disk.Disk) string {
	t.Helper()
	b, e := d.Read("vault")
	if e != api.OK && e != api.ErrDiskNone {
		t.Fatalf("Read: %d", e)
	}
	return string(b)
}

// does applies transactions that must be taken.
func does(t *testing.T, v *Vault, txns ...api.Txn) {
	t.Helper()
	for i, one := range txns {
		answers(t, fmt.Sprintf("transaction %d", i), v.Apply(one), api.OK)
	}
}

// answers holds that an error is of that number and tells these ids, and that it is a chain of Faults with the one number at its end (R4).
func answers(t *testing.T, what string, err error, n api.Errno, ids ...api.ID) {
	t.Helper()
	if n == api.OK {
		if err != nil {
			t.Errorf("%s: %v, want nil", what, err)
		}
		return
	}
	if err == nil {
		t.Errorf("%s: nil, want %d", what, n)
		return
	}
	first, ok := err.(*api.Fault)
	if !ok || api.Code(err) != n || !errors.Is(err, n) {
		t.Errorf("%s: %v, want %d", what, err, n)
		return
	}
	ids = slices.Clone(ids)
	sort.Slice(ids, func(i, j int) bool { return string(ids[i][:]) < string(ids[j][:]) })
	if !slices.Equal(first.IDs, ids) {
		t.Errorf("%s: ids %x, want %x", what, first.IDs, ids)
	}
	last := err
	for errors.Unwrap(last) != nil {
		if _, ok := last.(*api.Fault); !ok {
			t.Errorf("%s: %T in the chain", what, last)
		}
		last = errors.Unwrap(last)
	}
	if last != error(n) {
		t.Errorf("%s: the chain ends with %v, want %d", what, last, n)
	}
}

// seen tells all that a vault tells, so that two states may be held against each other.
func seen(v *Vault) string {
	var s strings.Builder
	fmt.Fprintln(&s, "number", v.Number())
	for _, id := range v.Ids() {
		enc, err := v.Get(id)
		fmt.Fprintf(&s, "object %x %x %v %v\n", id, enc, err, v.Has(id))
	}
	for _, r := range v.Refs() {
		id, there := v.Ref(r.Name)
		fmt.Fprintf(&s, "ref %q %x %x %v\n", r.Name, r.ID, id, there)
		for _, m := range v.Log(r.Name) {
			fmt.Fprintf(&s, "  %d %x %x\n", m.Number, m.Old, m.New)
		}
	}
	for _, n := range v.Notes() {
		value, there := v.Note(n.Key)
		fmt.Fprintf(&s, "note %q %x %v %v\n", n.Key, n.Value, slices.Equal(value, n.Value), there)
	}
	return s.String()
}

func holds(t *testing.T, what string, v *Vault, want string) {
	t.Helper()
	if got := seen(v); got != want {
		t.Errorf("%s:\n%swant:\n%s", what, got, want)
	}
}

// weigh tells the weight of what a vault tells, by the chapter's words.
func weigh(v *Vault) int {
	sum := 0
	for _, id := range v.Ids() {
		enc, _ := v.Get(id)
		sum += len(enc) + 64
	}
	for _, r := range v.Refs() {
		sum += len(r.Name) + 64 + 96*len(v.Log(r.Name))
	}
	for _, n := range v.Notes() {
		sum += len(n.Key) + len(n.Value) + 64
	}
	return sum
}

// sound holds what must be so of every vault that is opened, whatever stood on its disk.
func sound(t *testing.T, what string, v *Vault) {
	t.Helper()
	s := v.Store()
	for _, id := range v.Ids() {
		enc, _ := v.Get(id)
		links, e := object.Children(enc)
		if e != api.OK || idOf(string(enc)) != id {
			t.Errorf("%s: an object of the id %x: %x", what, id, enc)
		}
		for _, l := range links {
			if kind, _ := s.Kind(l.ID); kind != l.Kind {
				t.Errorf("%s: it is not closed at %x", what, id)
			}
		}
	}
	for _, r := range v.Refs() {
		log := v.Log(r.Name)
		if !v.Has(r.ID) || len(log) < 1 || len(log) > api.MaxMoves || log[len(log)-1].New != r.ID {
			t.Errorf("%s: the ref %q with %d lines", what, r.Name, len(log))
		}
	}
	if s.Len() > api.MaxStore || len(v.Refs()) > api.MaxRefs || len(v.Notes()) > api.MaxNotes || weigh(v) > api.MaxKept {
		t.Errorf("%s: it has no room", what)
	}
	answers(t, what+": Check", v.Check(), api.OK)
}

// The journal's records by chapter 12's words.
func rec(number uint64, parts ...string) string {
	b := binary.BigEndian.AppendUint64(nil, number)
	b = binary.BigEndian.AppendUint32(b, uint32(len(parts)))
	body := string(b) + strings.Join(longs(parts), "")
	head := string(binary.BigEndian.AppendUint32([]byte{0xa7}, uint32(len(body))))
	sum := sha256.Sum256([]byte(head + body))
	return head + body + string(sum[:]) + "\x5a"
}

func recs(parts ...string) string {
	s := ""
	for i, p := range parts {
		s += rec(uint64(i)+1, p)
	}
	return s
}

// What a vault writes into them.
func varOf(n uint64) string { return string(binary.AppendUvarint(nil, n)) }

func long(text string) string { return varOf(uint64(len(text))) + text }

func longs(texts []string) []string {
	var list []string
	for _, s := range texts {
		list = append(list, long(s))
	}
	return list
}

func listOf(items ...string) string {
	return varOf(uint64(len(items))) + strings.Join(items, "")
}

func objectsText(encs ...string) string {
	sorted := slices.Clone(encs)
	sort.Slice(sorted, func(i, j int) bool {
		a, b := idOf(sorted[i]), idOf(sorted[j])
		return string(a[:]) < string(b[:])
	})
	return listOf(longs(sorted)...)
}

func refText(name string, new api.ID) string { return long(name) + string(new[:]) }

func noteText(key, value string) string { return long(key) + long(value) }

func lineText(number uint64, new api.ID) string { return varOf(number) + string(new[:]) }

func logText(name string, old api.ID, lines ...string) string {
	return long(name) + string(old[:]) + listOf(lines...)
}

func changeText(number uint64, objects, refs, notes string) string {
	return "\x01" + varOf(number) + objects + refs + notes
}

func wholeText(number uint64, objects, refs, notes string) string {
	return "\x02" + varOf(number) + objects + refs + notes
}
