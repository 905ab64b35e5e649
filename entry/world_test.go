package entry

import (
	"bytes"
	"crypto/hmac"
	"crypto/sha256"
	"encoding/binary"
	"errors"
	"fmt"
	"slices"
	"strings"
	"testing"

	"satchel/api"
	"satchel/disk"
	"satchel/object"
	"satchel/press"
	"satchel/refs"
	"satchel/store"
	"satchel/vault"
)

var none api.ID

// all tells the id whose bytes are all b.
func all(b byte) (id api.ID) {
	for i := range id {
		id[i] = b
	}
	return id
}

// sorted tells ids by their bytes, each once.
func sorted(ids ...api.ID) []api.ID {
	list := slices.Clone(ids)
	slices.SortFunc(list, func(a, b api.ID) int { return bytes.Compare(a[:], b[:]) })
	return slices.Compact(list)
}

func put(s *store.Store, o api.Object) api.ID {
	enc, e := object.Encode(o)
	if e != api.OK {
		panic(fmt.Sprintf("%+v: %v", o, e))
	}
	id, _, e := s.Put(enc)
	if e != api.OK {
		panic(e)
	}
	return id
}

func blob(text string) api.Object { return api.Object{Kind: api.KindBlob, Blob: []byte(text)} }

func tree(files ...api.ID) api.Object {
	o := api.Object{Kind: api.KindTree}
	for i, id := range files {
		o.Entries = append(o.Entries, api.Entry{Mode: api.ModeFile, Name: fmt.Sprintf("%04d", i), ID: id})
	}
	return o
}

func commit(tree api.ID, text string, parents ...api.ID) api.Object {
	return api.Object{Kind: api.KindCommit, Commit: api.Commit{Tree: tree, Parents: parents, Text: text}}
}

func tag(target api.ID, kind int, name string) api.Object {
	return api.Object{Kind: api.KindTag, Tag: api.Tag{Target: target, Kind: kind, Name: name}}
}

// world is what the source has in the chapter's examples; b is c's file, t the tree of it.
type world struct {
	s          *store.Store
	b, t, c, d api.ID
}

func newWorld() *world {
	w := &world{s: store.New()}
	w.b = put(w.s, blob("x"))
	w.t = put(w.s, tree(w.b))
	w.c = put(w.s, commit(w.t, "c"))
	w.d = put(w.s, commit(w.t, "d", w.c))
	return w
}

// on puts a commit of the world's tree.
func (w *world) on(text string, parents ...api.ID) api.ID {
	return put(w.s, commit(w.t, text, parents...))
}

func (w *world) encs(ids ...api.ID) [][]byte {
	var list [][]byte
	for _, id := range ids {
		enc, e := w.s.Get(id)
		if e != api.OK {
			panic(fmt.Sprintf("%.4x: %v", id, e))
		}
		list = append(list, enc)
	}
	return list
}

// stamps tells stamps by names, ids and numbers in turn, sorted by name.
func stamps(triples ...any) []api.Stamp {
	var list []api.Stamp
	for i := 0; i < len(triples); i += 3 {
		list = append(list, api.Stamp{Name: triples[i].(string), ID: triples[i+1].(api.ID), Seq: uint64(triples[i+2].(int))})
	}
	slices.SortFunc(list, func(a, b api.Stamp) int { return strings.Compare(a.Name, b.Name) })
	return list
}

// head is a header from home to away.
func head(seq uint64, basis []api.ID, list []api.Stamp) api.Header {
	return api.Header{From: "home", To: "away", Seq: seq, Basis: sorted(basis...), Stamps: list}
}

func ids(list ...api.ID) []api.ID { return list }

func texted(b []byte, text string) []byte {
	return append(binary.AppendUvarint(b, uint64(len(text))), text...)
}

// packOf lays a pack of whole objects by hand.
func packOf(encs ...[]byte) []byte {
	list := slices.Clone(encs)
	id := func(enc []byte) []byte { sum := sha256.Sum256(enc); return sum[:] }
	slices.SortFunc(list, func(a, b []byte) int { return bytes.Compare(id(a), id(b)) })
	list = slices.CompactFunc(list, bytes.Equal)
	b := binary.AppendUvarint([]byte("SPAK\x01"), uint64(len(list)))
	for _, enc := range list {
		data, _ := press.Press(enc)
		b = append(append(b, id(enc)...), 1)
		b = texted(binary.AppendUvarint(b, uint64(len(enc))), string(data))
	}
	return append(b, id(b)...)
}

// lay writes a bundle by hand, whatever its header says.
func lay(h api.Header, p []byte, key string) []byte {
	b := texted(texted([]byte("SBDL\x01"), h.From), h.To)
	b = binary.BigEndian.AppendUint64(b, h.Seq)
	b = binary.AppendUvarint(b, uint64(len(h.Basis)))
	for _, id := range h.Basis {
		b = append(b, id[:]...)
	}
	b = binary.AppendUvarint(b, uint64(len(h.Stamps)))
	for _, stamp := range h.Stamps {
		b = append(texted(b, stamp.Name), stamp.ID[:]...)
		b = binary.BigEndian.AppendUint64(b, stamp.Seq)
	}
	return seal(texted(b, string(p)), key)
}

// seal lays the seal by the library.
func seal(body []byte, key string) []byte {
	h := hmac.New(sha256.New, []byte(key))
	h.Write(body)
	return h.Sum(slices.Clone(body))
}

// brings lays a bundle that brings these of the world's objects, sealed with k.
func (w *world) brings(h api.Header, objs ...api.ID) []byte {
	return lay(h, packOf(w.encs(objs...)...), "k")
}

func rulesOf(text string) []api.Rule {
	list, e := refs.ParseRules(text)
	if e != api.OK {
		panic(fmt.Sprintf("%s: %v", text, e))
	}
	return list
}

var exampleRules = rulesOf("+heads/*:far/home/*")

func opened(t *testing.T, d *disk.Disk) *vault.Vault {
	t.Helper()
	v, err := vault.Open(d)
	if err != nil {
		t.Fatal(err)
	}
	return v
}

func diskOf(t *testing.T, room int) *disk.Disk {
	t.Helper()
	d, e := disk.New(room)
	if e != api.OK {
		t.Fatal(e)
	}
	return d
}

func newVault(t *testing.T) *vault.Vault {
	t.Helper()
	return opened(t, diskOf(t, api.MaxRoom))
}

// seen tells all that a vault tells, so that two states may be held against each other.
func seen(v *vault.Vault) string {
	var s strings.Builder
	fmt.Fprintf(&s, "number %d\n%.4x\n", v.Number(), v.Ids())
	for _, r := range v.Refs() {
		fmt.Fprintf(&s, "ref %q %.4x %.4x\n", r.Name, r.ID, v.Log(r.Name))
	}
	for _, n := range v.Notes() {
		fmt.Fprintf(&s, "note %q %x\n", n.Key, n.Value)
	}
	return s.String()
}

// closed holds what must be so of every vault.
func closed(t *testing.T, what string, v *vault.Vault) {
	t.Helper()
	if err := v.Check(); err != nil {
		t.Errorf("%s: the vault is not whole: %v", what, err)
	}
}

// answers looks whether an error is none, or a chain as R4 says it: Faults, the first with just these ids, and at the end one number.
func answers(t *testing.T, what string, err error, n api.Errno, ids ...api.ID) {
	t.Helper()
	if n == api.OK {
		if err != nil {
			t.Errorf("%s: %v, want none", what, err)
		}
		return
	}
	var f *api.Fault
	if api.Code(err) != n || !errors.As(err, &f) {
		t.Errorf("%s: %v, want %v and a Fault", what, err, n)
		return
	}
	if !slices.Equal(f.IDs, ids) {
		t.Errorf("%s: %v names %.4x, want %.4x", what, err, f.IDs, ids)
	}
	for k := range api.ErrSiteRef + 20 { // the numbers of all layers
		if errors.Is(err, k) != (k == n) {
			t.Errorf("%s: %v is %d: %v", what, err, k, errors.Is(err, k))
		}
	}
	faults := 0
	for errors.As(err, &f) && err == error(f) {
		faults++
		err = f.Err
	}
	if faults == 0 || err != error(n) {
		t.Errorf("%s: behind %d Faults stands %v, want %v", what, faults, err, n)
	}
}

// told tells a result in short.
func told(r api.Result) string {
	return fmt.Sprintf("%s %d, %d objects, again %v, %.4x", r.From, r.Seq, r.Objects, r.Again, r.Refs)
}

func sameResult(a, b api.Result) bool {
	return a.From == b.From && a.Seq == b.Seq && a.Objects == b.Objects && slices.Equal(a.Refs, b.Refs) && a.Again == b.Again
}

// comes looks whether a bundle comes in, and what Check and Import tell of it.
func comes(t *testing.T, what string, v *vault.Vault, rules []api.Rule, data []byte, want api.Result) {
	t.Helper()
	was := seen(v)
	r, err := Check(v, "away", []byte("k"), rules, data)
	answers(t, what+": Check", err, api.OK)
	if !sameResult(r, want) {
		t.Errorf("%s: Check tells %s, want %s", what, told(r), told(want))
	}
	if seen(v) != was {
		t.Errorf("%s: Check has changed the vault", what)
	}
	r, err = Import(v, "away", []byte("k"), rules, data)
	answers(t, what, err, api.OK)
	if !sameResult(r, want) {
		t.Errorf("%s: %s, want %s", what, told(r), told(want))
	}
	for _, m := range want.Refs {
		at := m.New
		if m.How == api.HowSame || m.How == api.HowStale || m.How == api.HowKept {
			at = m.Old
		}
		if id, there := v.Ref(m.Name); id != at || there != (at != none) {
			t.Errorf("%s: %s is at %.4x, want %.4x", what, m.Name, id, at)
		}
	}
	if want.Again && want.Objects == 0 && !strings.Contains(was, fmt.Sprintf("number %d\n", v.Number())) && !moves(want) {
		t.Errorf("%s: something is written again", what)
	}
	closed(t, what, v)
}

// moves tells whether one of the refs is moved.
func moves(r api.Result) bool {
	return slices.ContainsFunc(r.Refs, func(m api.Moved) bool {
		return m.How == api.HowMade || m.How == api.HowForward || m.How == api.HowForced || m.How == api.HowGone
	})
}

// stays looks whether a bundle is refused by Check and by Import, and changes nothing.
func stays(t *testing.T, what string, v *vault.Vault, me, key string, rules []api.Rule, data []byte, n api.Errno, ids ...api.ID) {
	t.Helper()
	was := seen(v)
	for name, call := range map[string]func(*vault.Vault, string, []byte, []api.Rule, []byte) (api.Result, error){"Check": Check, "Import": Import} {
		r, err := call(v, me, []byte(key), rules, data)
		answers(t, what+": "+name, err, n, ids...)
		if err != nil && !sameResult(r, api.Result{}) {
			t.Errorf("%s: %s tells %s beside an error", what, name, told(r))
		}
		if seen(v) != was {
			t.Errorf("%s: refused by %s, and the vault is another:\n%swas:\n%s", what, name, seen(v), was)
		}
	}
}

// refuses is stays with the name and the key that are right.
func refuses(t *testing.T, what string, v *vault.Vault, rules []api.Rule, data []byte, n api.Errno, ids ...api.ID) {
	t.Helper()
	stays(t, what, v, "away", "k", rules, data, n, ids...)
}

// rowsOf tells the rows of a result: name, old, new and how in turn.
func rowsOf(fours ...any) []api.Moved {
	var list []api.Moved
	for i := 0; i < len(fours); i += 4 {
		list = append(list, api.Moved{Name: fours[i].(string), Old: fours[i+1].(api.ID), New: fours[i+2].(api.ID), How: fours[i+3].(int)})
	}
	return list
}

func result(seq uint64, objects int, again bool, moved ...any) api.Result {
	return api.Result{From: "home", Seq: seq, Objects: objects, Again: again, Refs: rowsOf(moved...)}
}

// accepts looks which numbers of a source are kept.
func accepts(t *testing.T, what string, v *vault.Vault, from string, want ...uint64) {
	t.Helper()
	if got := Accepted(v, from); !slices.Equal(got, want) {
		t.Errorf("%s: accepted of %s %d, want %d", what, from, got, want)
	}
}

// has does a transaction that must be taken.
func has(t *testing.T, v *vault.Vault, txn api.Txn) {
	t.Helper()
	if err := v.Apply(txn); err != nil {
		t.Fatal(err)
	}
}

// moveTo lets another hand move a ref.
func moveTo(t *testing.T, v *vault.Vault, name string, id api.ID) {
	t.Helper()
	old, _ := v.Ref(name)
	has(t, v, api.Txn{Refs: []api.RefChange{{Name: name, Old: old, New: id}}})
}

// notesOf tells the notes of sources.
func notesOf(v *vault.Vault) []api.Note {
	return slices.DeleteFunc(v.Notes(), func(n api.Note) bool { return !strings.HasPrefix(n.Key, "entry/") })
}
