package ledger

import (
	"bytes"
	"crypto/hmac"
	"crypto/sha256"
	"encoding/binary"
	"errors"
	"fmt"
	"slices"
	"strings"
	"testing"

	"satchel/api"
	"satchel/object"
	"satchel/store"
)

// all tells the id whose bytes are all b.
func all(b byte) (id api.ID) {
	for i := range id {
		id[i] = b
	}
	return id
}

// rowOf tells so many ids that rise, none of them zero.
func rowOf(n int) []api.ID {
	var ids []api.ID
	for i := range n {
		id := all(7)
		binary.BigEndian.PutUint32(id[:], uint32(i+1))
		ids = append(ids, id)
	}
	return ids
}

// sorted tells ids by their bytes, each once.
func sorted(ids ...api.ID) []api.ID {
	list := slices.Clone(ids)
	slices.SortFunc(list, func(a, b api.ID) int { return bytes.Compare(a[:], b[:]) })
	return slices.Compact(list)
}

func put(s *store.Store, o api.Object) api.ID {
	enc, e := object.Encode(o)
	if e != api.OK {
		panic(fmt.Sprintf("%+v: %v", o, e))
	}
	id, _, e := s.Put(enc)
	if e != api.OK {
		panic(e)
	}
	return id
}

func blob(text string) api.Object { return api.Object{Kind: api.KindBlob, Blob: []byte(text)} }

func tree(files ...api.ID) api.Object {
	o := api.Object{Kind: api.KindTree}
	for i, id := range files {
		o.Entries = append(o.Entries, api.Entry{Mode: api.ModeFile, Name: fmt.Sprintf("%04d", i), ID: id})
	}
	return o
}

func commit(tree api.ID, text string, parents ...api.ID) api.Object {
	return api.Object{Kind: api.KindCommit, Commit: api.Commit{Tree: tree, Parents: parents, Text: text}}
}

func tag(target api.ID, kind int) api.Object {
	return api.Object{Kind: api.KindTag, Tag: api.Tag{Target: target, Kind: kind, Name: "v"}}
}

// world is the store of the chapter's examples, and a file.
type world struct {
	s          *store.Store
	x, t, c, d api.ID
}

func newWorld() *world {
	w := &world{s: store.New()}
	w.x = put(w.s, blob("x"))
	w.t = put(w.s, tree(w.x))
	w.c = put(w.s, commit(w.t, "c"))
	w.d = put(w.s, commit(w.t, "d", w.c))
	return w
}

// ref tells refs by names and ids in turn.
func ref(pairs ...any) []api.Ref {
	var list []api.Ref
	for i := 0; i < len(pairs); i += 2 {
		list = append(list, api.Ref{Name: pairs[i].(string), ID: pairs[i+1].(api.ID)})
	}
	return list
}

// stamp tells stamps by names, ids and numbers in turn.
func stamp(triples ...any) []api.Stamp {
	var list []api.Stamp
	for i := 0; i < len(triples); i += 3 {
		list = append(list, api.Stamp{Name: triples[i].(string), ID: triples[i+1].(api.ID), Seq: uint64(triples[i+2].(int))})
	}
	return list
}

var none api.ID

// small is a ledger in which there is something of everything.
func small() api.Ledger {
	return api.Ledger{
		From: "home", To: "away", Next: 300,
		Sent: []api.Sent{{Seq: 7, Tips: sorted(all(1), all(2))}, {Seq: 9}, {Seq: 299, Tips: sorted(all(2))}},
		Sure: sorted(all(1), all(3)), Lean: sorted(all(2), all(4)),
		Refs: stamp("x", all(2), 200, "y", none, 1, "z", all(1), 299),
	}
}

// fullest is a ledger of which every part is as great as it may be.
func fullest() api.Ledger {
	long := strings.Repeat("n", api.MaxName-4)
	l := api.Ledger{From: long + "from", To: long + "dest", Next: api.MaxSeq + 1, Sure: rowOf(api.MaxBasis), Lean: rowOf(api.MaxBasis)}
	for i := range uint64(api.MaxSent) {
		l.Sent = append(l.Sent, api.Sent{Seq: api.MaxSeq - api.MaxSent + 1 + i, Tips: rowOf(api.MaxRefs)})
	}
	for i := range api.MaxStamps {
		l.Refs = append(l.Refs, api.Stamp{Name: fmt.Sprintf("%s%04d", long, i), Seq: api.MaxSeq})
		if i%2 == 0 {
			l.Refs[i].ID = all(1)
		}
	}
	return l
}

// deep tells a ledger again, in other memory.
func deep(l api.Ledger) api.Ledger {
	sent := l.Sent
	l.Sent = nil
	for _, x := range sent {
		l.Sent = append(l.Sent, api.Sent{Seq: x.Seq, Tips: append([]api.ID{}, x.Tips...)})
	}
	l.Sure, l.Lean, l.Refs = append([]api.ID{}, l.Sure...), append([]api.ID{}, l.Lean...), append([]api.Stamp{}, l.Refs...)
	return l
}

func same(a, b api.Ledger) bool {
	return a.From == b.From && a.To == b.To && a.Next == b.Next &&
		slices.EqualFunc(a.Sent, b.Sent, func(x, y api.Sent) bool { return x.Seq == y.Seq && slices.Equal(x.Tips, y.Tips) }) &&
		slices.Equal(a.Sure, b.Sure) && slices.Equal(a.Lean, b.Lean) && slices.Equal(a.Refs, b.Refs)
}

func texted(b []byte, text string) []byte {
	return append(binary.AppendUvarint(b, uint64(len(text))), text...)
}

func layIDs(b []byte, ids []api.ID) []byte {
	b = binary.AppendUvarint(b, uint64(len(ids)))
	for _, id := range ids {
		b = append(b, id[:]...)
	}
	return b
}

// lay writes a ledger by hand, whatever it says.
func lay(l api.Ledger) []byte {
	b := texted(texted([]byte("LEDGER01"), l.From), l.To)
	b = binary.AppendUvarint(b, l.Next)
	b = binary.AppendUvarint(b, uint64(len(l.Sent)))
	for _, x := range l.Sent {
		b = layIDs(binary.AppendUvarint(b, x.Seq), x.Tips)
	}
	b = layIDs(layIDs(b, l.Sure), l.Lean)
	b = binary.AppendUvarint(b, uint64(len(l.Refs)))
	for _, stamp := range l.Refs {
		b = append(texted(b, stamp.Name), stamp.ID[:]...)
		b = binary.AppendUvarint(b, stamp.Seq)
	}
	return b
}

// seal lays the seal by the library.
func seal(body []byte, key string) []byte {
	h := hmac.New(sha256.New, []byte(key))
	h.Write(body)
	return h.Sum(slices.Clone(body))
}

// paper writes a receipt's bytes without the seal by hand, whatever the ranges are.
func paper(from, to string, ranges ...uint64) []byte {
	b := texted(texted([]byte("RECEIPT1"), from), to)
	b = binary.AppendUvarint(b, uint64(len(ranges)/2))
	for _, n := range ranges {
		b = binary.AppendUvarint(b, n)
	}
	return b
}

// answers looks whether an error is none, or a chain as R4 says it: Faults without ids, and at the end one number.
func answers(t *testing.T, what string, err error, n api.Errno) {
	t.Helper()
	if n == api.OK {
		if err != nil {
			t.Errorf("%s: %v, want none", what, err)
		}
		return
	}
	var f *api.Fault
	if api.Code(err) != n || !errors.As(err, &f) {
		t.Errorf("%s: %v, want %v and a Fault", what, err, n)
		return
	}
	for k := range api.ErrSiteRef + 20 { // the numbers of all layers
		if errors.Is(err, k) != (k == n) {
			t.Errorf("%s: %v is %d: %v", what, err, k, errors.Is(err, k))
		}
	}
	faults := 0
	for errors.As(err, &f) && err == error(f) {
		if len(f.IDs) > 0 {
			t.Errorf("%s: %v names %.4x", what, err, f.IDs)
		}
		faults++
		err = f.Err
	}
	if faults == 0 || err != error(n) {
		t.Errorf("%s: behind %d Faults stands %v, want %v", what, faults, err, n)
	}
}

// tells looks what a call answers: a ledger, or an error and nothing beside it.
func tells(t *testing.T, what string, l api.Ledger, err error, want api.Ledger, n api.Errno) {
	t.Helper()
	answers(t, what, err, n)
	if n != api.OK {
		want = api.Ledger{}
	}
	if !same(l, want) {
		t.Errorf("%s: %.4x, want %.4x", what, l, want)
	}
}

// plans looks what Plan answers: the header, and Basis twice.
func plans(t *testing.T, what string, l api.Ledger, s *store.Store, refs []api.Ref, sure bool, basis []api.ID, stamps []api.Stamp, n api.Errno) api.Header {
	t.Helper()
	h, again, err := Plan(l, s, refs, sure)
	answers(t, what, err, n)
	want := api.Header{From: l.From, To: l.To, Seq: l.Next, Basis: basis, Stamps: stamps}
	if n != api.OK {
		want = api.Header{}
	}
	if !sameHead(h, want) || !slices.Equal(again, want.Basis) {
		t.Errorf("%s: %.4x, %.4x, want %.4x", what, h, again, want)
	}
	return h
}

func sameHead(a, b api.Header) bool {
	return a.From == b.From && a.To == b.To && a.Seq == b.Seq && slices.Equal(a.Basis, b.Basis) && slices.Equal(a.Stamps, b.Stamps)
}

// sends plans a bundle of some refs and notes it.
func sends(t *testing.T, l api.Ledger, s *store.Store, refs []api.Ref) (api.Ledger, api.Header) {
	t.Helper()
	h, _, err := Plan(l, s, refs, false)
	answers(t, "Plan", err, api.OK)
	next, err := Sent(l, s, h)
	answers(t, "Sent", err, api.OK)
	return next, h
}
