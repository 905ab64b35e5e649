package bundle

import (
	"bytes"
	"errors"
	"fmt"
	"runtime"
	"slices"
	"testing"

	"satchel/api"
	"satchel/pack"
	"satchel/store"
)

// roomy tells a copy of a list with spare room behind its end, and the whole of it.
func roomy[T any](list []T, behind ...T) (given, whole []T) {
	whole = slices.Concat(list, behind)
	return whole[:len(list)], whole
}

// spoil writes over a list and the spare room behind its end.
func spoil[T any](list []T, item T) {
	list = list[:cap(list)]
	for i := range list {
		list[i] = item
	}
}

func TestMemoryOfMake(t *testing.T) { // P15.6, R2
	w := newWorld()
	next := put(w.s, commit(w.t, "next", w.d))
	h := w.head()
	want, wholeWant := roomy([]api.ID{next, w.d, next}, row(9)...)
	have, wholeHave := roomy([]api.ID{sorted(w.x, w.c)[1], w.x, w.c, w.x}, row(9)...)
	key, wholeKey := roomy([]byte("key"), []byte("spare")...)
	var wholeStamps []api.Stamp
	h.Stamps, wholeStamps = roomy(h.Stamps, api.Stamp{Name: "x"}, api.Stamp{Name: "y"})
	basis, wholeBasis := roomy([]api.ID{all(5), all(5)}, all(6))
	h.Basis = basis
	was := fmt.Sprint(wholeWant, wholeHave, wholeKey, wholeStamps, wholeBasis)
	ids := w.s.Ids()
	one, err := Make(w.s, h, key, want, have)
	answers(t, "Make", err, api.OK)
	two, _ := Make(w.s, h, key, want, have)
	for _, bad := range []api.Header{{}, {From: "a", To: "b"}, {From: "a", To: "b", Seq: 1, Stamps: []api.Stamp{{Name: "a", ID: all(8), Seq: 1}}}} {
		Make(w.s, bad, key, want, have)
	}
	if was != fmt.Sprint(wholeWant, wholeHave, wholeKey, wholeStamps, wholeBasis) {
		t.Error("what is handed in, or the room behind it, is changed")
	}
	if !slices.Equal(h.Basis, basis) || !slices.Equal(w.s.Ids(), ids) {
		t.Error("the header or the store is changed")
	}
	spoil(two, 'z')
	spoil(wholeKey[3:], 'z')
	spoil(wholeStamps[1:], api.Stamp{})
	three, _ := Make(w.s, h, key, want, have)
	if !bytes.Equal(one, three) {
		t.Error("two answers share memory, or spare room is looked at")
	}
	for _, id := range ids {
		if enc, _ := w.s.Get(id); idOf(enc) != id {
			t.Errorf("%.4x is changed", id)
		}
	}
}

func TestMemoryOfMakesFaults(t *testing.T) { // P15.6, R2: the ids that an error names are new memory
	w := newWorld()
	h := points(all(9), all(8))
	h.From, h.To, h.Seq = "a", "b", 1
	h.Stamps[0].Name, h.Stamps[0].Seq, h.Stamps[1].Name, h.Stamps[1].Seq = "a", 1, "b", 1
	want := []api.ID{all(7), all(6)}
	calls := map[string]func() error{
		"want": func() error { _, err := Make(w.s, h, nil, want, nil); return err },
		"ref":  func() error { _, err := Make(w.s, h, nil, nil, nil); return err },
		"basis": func() error {
			_, err := Verify(w.s, api.Bundle{Head: api.Header{Basis: want}})
			return err
		},
		"verify's ref": func() error {
			_, err := Verify(w.s, api.Bundle{Head: h, Pack: packOf()})
			return err
		},
		"closure": func() error {
			_, err := Verify(store.New(), api.Bundle{Pack: packOf(w.encs(w.d)...)})
			return err
		},
		"base": func() error {
			_, err := Verify(store.New(), api.Bundle{Pack: packBy(thin(w.encs(w.c)[0], w.encs(w.d)[0]))})
			return err
		},
	}
	for what, call := range calls {
		var one, two *api.Fault
		if !errors.As(call(), &one) || !errors.As(call(), &two) {
			t.Fatalf("%s: no Fault", what)
		}
		ids := slices.Clone(one.IDs)
		spoil(two.IDs, all(255))
		if !slices.Equal(one.IDs, ids) || len(ids) == 0 || want[0] != all(7) || want[1] != all(6) || h.Stamps[0].ID != all(9) {
			t.Errorf("%s: the ids share memory", what)
		}
	}
}

func TestMemoryOfParse(t *testing.T) { // P15.6, R2
	x := full()
	key, wholeKey := roomy([]byte("key"), []byte("spare")...)
	b, whole := roomy(lay(x.Head, x.Pack, key), []byte("spare room")...)
	was := slices.Clone(whole)
	one, err := Parse(b, key)
	answers(t, "Parse", err, api.OK)
	two, _ := Parse(b, key)
	parses(t, "another key", b, api.ErrBundleSeal)
	if !bytes.Equal(whole, was) || string(wholeKey) != "keyspare" {
		t.Error("what is handed in, or the room behind it, is changed")
	}
	for range 2 { // what is answered shares nothing with the bytes, nor with another answer
		if !sameBundle(one, x) {
			t.Errorf("an answer shares memory: %+v", one)
		}
		spoil(two.Head.Basis, all(9))
		spoil(two.Head.Stamps, api.Stamp{})
		spoil(two.Pack, 'z')
		if !bytes.Equal(whole, was) {
			t.Error("an answer shares memory with the bytes")
		}
		spoil(whole, 'z')
		was = slices.Clone(whole)
	}
}

func TestMemoryOfVerify(t *testing.T) { // P15.6, R2
	w := newWorld()
	p, whole := roomy(packOf(w.encs(w.x, w.t, w.d)...), []byte("spare room")...)
	basis, wholeBasis := roomy([]api.ID{w.c, w.c}, all(1))
	stamps, wholeStamps := roomy([]api.Stamp{{ID: w.d}, {}, {ID: w.c}}, api.Stamp{ID: all(2)})
	b := api.Bundle{Head: api.Header{Basis: basis, Stamps: stamps}, Pack: p}
	was := fmt.Sprint(whole, wholeBasis, wholeStamps)
	s := w.part(w.c)
	encs := w.encs(w.x, w.t, w.d)
	verifies(t, "Verify", s, b, encs)
	one, _ := Verify(s, b)
	two, _ := Verify(s, b)
	refuses(t, "over an empty store", store.New(), b, api.ErrBundleBasis, w.c)
	if was != fmt.Sprint(whole, wholeBasis, wholeStamps) {
		t.Error("what is handed in, or the room behind it, is changed")
	}
	spoil(whole, 'z')
	for i := range two {
		spoil(two[i], 'z')
		for k := range two {
			if k > i && !bytes.Equal(two[k], encs[k]) {
				t.Errorf("writing to list %d changes list %d", i, k)
			}
		}
	}
	spoil(two, nil)
	if !slices.EqualFunc(one, encs, bytes.Equal) {
		t.Error("an answer shares memory")
	}
	if enc, _ := s.Get(w.c); s.Len() != 1 || idOf(enc) != w.c {
		t.Error("the store is changed")
	}
}

// taken tells how many bytes of memory a call takes.
func taken(call func()) uint64 {
	var before, after runtime.MemStats
	runtime.GC()
	runtime.ReadMemStats(&before)
	call()
	runtime.ReadMemStats(&after)
	return after.TotalAlloc - before.TotalAlloc
}

func TestNothingIsLaidOutByANumber(t *testing.T) { // R6: numbers of items that are not there
	bare := body(plain, nil)
	at := len("SBDL\x01\x01a\x01b") + 8
	for n := range 3 {
		for _, number := range []string{"\xff\xff\xff\x7f", "\xff\xff\xff\xff\xff\xff\xff\xff\xff\x01", "\x80\x80\x80\x80\x80\x80\x80\x80\x40"} {
			b := seal([]byte(string(bare[:at+n])+number+string(bare[at+n+1:])), []byte("k"))
			if n := taken(func() { Parse(b, []byte("k")) }); n > 20000 {
				t.Errorf("number %d is % x: %d bytes are taken", n, number, n)
			}
			parses(t, "a great number", b, api.ErrBundleForm)
		}
	}
}

func TestBasesThatDoNotMatter(t *testing.T) { // P15.2: of the store just the needs are read
	s := store.New()
	for i := range 100 {
		put(s, blob(noise(60000, int64(i))))
	}
	base, near := encoded(blob(noise(300, 500)+"a")), encoded(blob(noise(300, 500)+"b"))
	s.Put(base)
	b := api.Bundle{Pack: packBy(thin(base, near))}
	if n := taken(func() { Verify(s, b) }); n > 1000000 {
		t.Errorf("%d bytes are taken", n)
	}
	if needs, e := pack.Needs(b.Pack); e != api.OK || !slices.Equal(needs, []api.ID{idOf(base)}) {
		t.Errorf("%.4x, %v", needs, e)
	}
}
