package bundle

import (
	"bytes"
	"crypto/hmac"
	"crypto/sha256"
	"encoding/binary"
	"errors"
	"fmt"
	"math/rand"
	"slices"
	"testing"

	"satchel/api"
	"satchel/delta"
	"satchel/object"
	"satchel/pack"
	"satchel/press"
	"satchel/store"
)

// all tells the id whose bytes are all b.
func all(b byte) (id api.ID) {
	for i := range id {
		id[i] = b
	}
	return id
}

// sorted tells ids by their bytes, each once.
func sorted(ids ...api.ID) []api.ID {
	list := slices.Clone(ids)
	slices.SortFunc(list, func(a, b api.ID) int { return bytes.Compare(a[:], b[:]) })
	return slices.Compact(list)
}

func put(s *store.Store, o api.Object) api.ID {
	enc, e := object.Encode(o)
	if e != api.OK {
		panic(fmt.Sprintf("%+v: %v", o, e))
	}
	id, _, e := s.Put(enc)
	if e != api.OK {
		panic(e)
	}
	return id
}

func blob(text string) api.Object { return api.Object{Kind: api.KindBlob, Blob: []byte(text)} }

// tree names its files a, b and so on.
func tree(files ...api.ID) api.Object {
	o := api.Object{Kind: api.KindTree}
	for i, id := range files {
		o.Entries = append(o.Entries, api.Entry{Mode: api.ModeFile, Name: fmt.Sprintf("%04d", i), ID: id})
	}
	return o
}

func folder(of api.ID) api.Object {
	return api.Object{Kind: api.KindTree, Entries: []api.Entry{{Mode: api.ModeTree, Name: "d", ID: of}}}
}

func commit(tree api.ID, text string, parents ...api.ID) api.Object {
	return api.Object{Kind: api.KindCommit, Commit: api.Commit{Tree: tree, Parents: parents, Text: text}}
}

func tag(target api.ID, kind int) api.Object {
	return api.Object{Kind: api.KindTag, Tag: api.Tag{Target: target, Kind: kind, Name: "v"}}
}

// world is the store of the chapter's examples.
type world struct {
	s          *store.Store
	x, t, c, d api.ID
}

func newWorld() *world {
	w := &world{s: store.New()}
	w.x = put(w.s, blob("x"))
	w.t = put(w.s, tree(w.x))
	w.c = put(w.s, commit(w.t, "c"))
	w.d = put(w.s, commit(w.t, "d", w.c))
	return w
}

// part tells a store with some of the objects.
func (w *world) part(ids ...api.ID) *store.Store {
	s := store.New()
	for _, enc := range w.encs(ids...) {
		s.Put(enc)
	}
	return s
}

// encs tells encodings, sorted by id.
func (w *world) encs(ids ...api.ID) [][]byte {
	var list [][]byte
	for _, id := range sorted(ids...) {
		enc, e := w.s.Get(id)
		if e != api.OK {
			panic(e)
		}
		list = append(list, enc)
	}
	return list
}

// head is the header of the examples.
func (w *world) head() api.Header {
	return api.Header{From: "home", To: "away", Seq: 2, Stamps: []api.Stamp{{Name: "heads/main", ID: w.d, Seq: 2}}}
}

var plain = api.Header{From: "a", To: "b", Seq: 1}

// keyed tells the seal by the library.
func keyed(key, body []byte) []byte {
	h := hmac.New(sha256.New, key)
	h.Write(body)
	return h.Sum(nil)
}

func seal(body, key []byte) []byte { return slices.Concat(body, keyed(key, body)) }

func texted(b []byte, text string) []byte {
	return append(binary.AppendUvarint(b, uint64(len(text))), text...)
}

// body lays a bundle without its seal by hand, whatever its header says.
func body(h api.Header, p []byte) []byte {
	b := texted(texted([]byte("SBDL\x01"), h.From), h.To)
	b = binary.BigEndian.AppendUint64(b, h.Seq)
	b = binary.AppendUvarint(b, uint64(len(h.Basis)))
	for _, id := range h.Basis {
		b = append(b, id[:]...)
	}
	b = binary.AppendUvarint(b, uint64(len(h.Stamps)))
	for _, stamp := range h.Stamps {
		b = append(texted(b, stamp.Name), stamp.ID[:]...)
		b = binary.BigEndian.AppendUint64(b, stamp.Seq)
	}
	return texted(b, string(p))
}

func lay(h api.Header, p, key []byte) []byte { return seal(body(h, p), key) }

// rec is a record of a pack by hand.
type rec struct {
	id, base api.ID // the zero base: whole
	size     int
	data     []byte
}

func whole(enc []byte) rec {
	data, _ := press.Press(enc)
	return rec{id: sha256.Sum256(enc), size: len(enc), data: data}
}

func thin(base, enc []byte) rec {
	d, _ := delta.Make(base, enc)
	data, _ := press.Press(d)
	return rec{id: sha256.Sum256(enc), base: sha256.Sum256(base), size: len(enc), data: data}
}

// packBy lays a pack of records.
func packBy(records ...rec) []byte {
	records = slices.Clone(records)
	slices.SortFunc(records, func(a, b rec) int { return bytes.Compare(a.id[:], b.id[:]) })
	b := binary.AppendUvarint([]byte("SPAK\x01"), uint64(len(records)))
	for _, r := range records {
		b = append(b, r.id[:]...)
		if r.base == (api.ID{}) {
			b = append(b, 1)
		} else {
			b = append(append(b, 2), r.base[:]...)
		}
		b = texted(binary.AppendUvarint(b, uint64(r.size)), string(r.data))
	}
	sum := sha256.Sum256(b)
	return append(b, sum[:]...)
}

// packOf lays a pack of whole objects.
func packOf(encs ...[]byte) []byte {
	var records []rec
	for _, enc := range encs {
		records = append(records, whole(enc))
	}
	return packBy(records...)
}

// noise tells bytes that can't be pressed.
func noise(n int, seed int64) string {
	b := make([]byte, n)
	rand.New(rand.NewSource(seed)).Read(b)
	return string(b)
}

// answers looks whether an error is none, or a chain as R4 says it: Faults, the first with just these ids, and at the end one number.
func answers(t *testing.T, what string, err error, n api.Errno, ids ...api.ID) {
	t.Helper()
	if n == api.OK {
		if err != nil {
			t.Errorf("%s: %v, want none", what, err)
		}
		return
	}
	var f *api.Fault
	if api.Code(err) != n || !errors.As(err, &f) {
		t.Errorf("%s: %v, want %v and a Fault", what, err, n)
		return
	}
	if !slices.Equal(f.IDs, ids) {
		t.Errorf("%s: %v names %.4x, want %.4x", what, err, f.IDs, ids)
	}
	for k := range api.ErrSiteRef + 20 { // the numbers of all layers
		if errors.Is(err, k) != (k == n) {
			t.Errorf("%s: %v is %d: %v", what, err, k, errors.Is(err, k))
		}
	}
	faults := 0
	for errors.As(err, &f) && err == error(f) {
		faults++
		err = f.Err
	}
	if faults == 0 || err != error(n) {
		t.Errorf("%s: behind %d Faults stands %v, want %v", what, faults, err, n)
	}
}

// makes looks whether a bundle is made, and tells what stands in it.
func makes(t *testing.T, what string, s *store.Store, h api.Header, want, have []api.ID) api.Bundle {
	t.Helper()
	key := []byte("k")
	b, err := Make(s, h, key, want, have)
	answers(t, what, err, api.OK)
	x, err := Parse(b, key)
	answers(t, what+": Parse", err, api.OK)
	if !bytes.Equal(b, lay(x.Head, x.Pack, key)) {
		t.Errorf("%s: the bytes are not of the form", what)
	}
	h.Basis = sorted(have...)
	if !sameHead(x.Head, h) {
		t.Errorf("%s: the header is %.4x, want %.4x", what, x.Head, h)
	}
	return x
}

// unmade looks whether Make refuses.
func unmade(t *testing.T, what string, s *store.Store, h api.Header, want, have []api.ID, n api.Errno, ids ...api.ID) {
	t.Helper()
	b, err := Make(s, h, []byte("k"), want, have)
	answers(t, what, err, n, ids...)
	if len(b) > 0 {
		t.Errorf("%s: %d bytes beside the error", what, len(b))
	}
}

// parses looks what Parse answers to bytes under the seal of the key k.
func parses(t *testing.T, what string, b []byte, n api.Errno) {
	t.Helper()
	x, err := Parse(b, []byte("k"))
	answers(t, what, err, n)
	if err != nil && !sameBundle(x, api.Bundle{}) {
		t.Errorf("%s: %.4x beside the error", what, x)
	}
}

// verifies looks whether a bundle is taken, and brings just these encodings.
func verifies(t *testing.T, what string, s *store.Store, b api.Bundle, encs [][]byte) {
	t.Helper()
	ids := s.Ids()
	got, err := Verify(s, b)
	answers(t, what, err, api.OK)
	if !slices.EqualFunc(got, encs, bytes.Equal) {
		t.Errorf("%s: %d encodings %.80x, want %d", what, len(got), got, len(encs))
	}
	if !slices.Equal(s.Ids(), ids) {
		t.Errorf("%s: the store is changed", what)
	}
}

// refuses looks whether a bundle is not taken.
func refuses(t *testing.T, what string, s *store.Store, b api.Bundle, n api.Errno, ids ...api.ID) {
	t.Helper()
	was := s.Ids()
	got, err := Verify(s, b)
	answers(t, what, err, n, ids...)
	if len(got) > 0 {
		t.Errorf("%s: %d encodings beside the error", what, len(got))
	}
	if !slices.Equal(s.Ids(), was) {
		t.Errorf("%s: the store is changed", what)
	}
}

func sameHead(a, b api.Header) bool {
	return a.From == b.From && a.To == b.To && a.Seq == b.Seq && slices.Equal(a.Basis, b.Basis) && slices.Equal(a.Stamps, b.Stamps)
}

func sameBundle(a, b api.Bundle) bool {
	return sameHead(a.Head, b.Head) && bytes.Equal(a.Pack, b.Pack)
}

func idsOf(t *testing.T, p []byte) []api.ID {
	t.Helper()
	ids, e := pack.Ids(p)
	if e != api.OK {
		t.Errorf("the pack: %v", e)
	}
	return ids
}

func needsOf(t *testing.T, p []byte) []api.ID {
	t.Helper()
	ids, e := pack.Needs(p)
	if e != api.OK {
		t.Errorf("the pack: %v", e)
	}
	return ids
}
