package store

import (
	"bytes"
	"fmt"
	"math/rand"
	"runtime"
	"slices"
	"strings"
	"testing"

	"satchel/api"
	"satchel/digest"
	"satchel/object"
)

// blob tells the encoding of a blob.
func blob(text string) []byte { return append([]byte{api.KindBlob}, text...) }

// numbered tells the encoding of a blob that no other number has.
func numbered(n int) []byte { return blob(fmt.Sprint("number ", n)) }

// fill tells a store with so many blobs.
func fill(t *testing.T, n int) *Store {
	t.Helper()
	s := New()
	for i := range n {
		put(t, s, numbered(i))
	}
	return s
}

// put adds an object that is new.
func put(t *testing.T, s *Store, enc []byte) api.ID {
	t.Helper()
	id, fresh, e := s.Put(enc)
	if id != digest.Sum(enc) || !fresh || e != api.OK {
		t.Fatalf("Put(%.40x): %x, %v, %v", enc, id, fresh, e)
	}
	return id
}

// plant lays bytes under an id that is not their digest: no such two are known.
func plant(s *Store, id api.ID, enc []byte) { s.encodings[id] = enc }

func encoded(t *testing.T, o api.Object) []byte {
	t.Helper()
	enc, e := object.Encode(o)
	if e != api.OK {
		t.Fatalf("Encode(%+v): %v", o, e)
	}
	return enc
}

// everyKind tells encodings of all kinds; what they name is not there.
func everyKind(t *testing.T) [][]byte {
	t.Helper()
	one, two := digest.Sum([]byte("one")), digest.Sum([]byte("two"))
	return [][]byte{
		blob("hi"),
		blob(""),
		blob(strings.Repeat("x", api.MaxObject-1)),
		encoded(t, api.Object{Kind: api.KindTree}),
		encoded(t, api.Object{Kind: api.KindTree, Entries: []api.Entry{
			{Mode: api.ModeRun, Name: "a", ID: two}, {Mode: api.ModeTree, Name: "b", ID: one}, {Mode: api.ModeFile, Name: "c", ID: two}}}),
		encoded(t, api.Object{Kind: api.KindCommit, Commit: api.Commit{Tree: two, Parents: []api.ID{two, one}, Who: "me"}}),
		encoded(t, api.Object{Kind: api.KindTag, Tag: api.Tag{Target: one, Kind: api.KindTag, Name: "v1"}}),
	}
}

// wrong tells bytes that encode nothing, at least one for each of Parse's errors.
func wrong() [][]byte {
	return [][]byte{
		nil, {}, {0}, {5}, {255, 1, 2},
		make([]byte, api.MaxObject+1), blob(strings.Repeat("x", api.MaxObject)),
		{2}, {2, 0, 0}, {2, 0x80, 0}, {2, 1, 1, 1, 'a'}, {3}, {4},
		append([]byte{2, 1, 9, 1, 'a'}, make([]byte, 32)...),
		append([]byte{2, 1, 1, 1, '/'}, make([]byte, 32)...),
	}
}

// byID sorts a list of its own.
func byID(ids []api.ID) []api.ID {
	ids = slices.Clone(ids)
	slices.SortFunc(ids, func(a, b api.ID) int { return strings.Compare(string(a[:]), string(b[:])) })
	return ids
}

// holds asks all that tells what there is.
func holds(t *testing.T, what string, s *Store, encs ...[]byte) {
	t.Helper()
	want := map[api.ID][]byte{}
	for _, enc := range encs {
		want[digest.Sum(enc)] = enc
	}
	var ids []api.ID
	for id, enc := range want {
		ids = append(ids, id)
		if got, e := s.Get(id); e != api.OK || !bytes.Equal(got, enc) || !s.Has(id) {
			t.Fatalf("%s: Get(%x): %.40x, %v, want %.40x", what, id, got, e, enc)
		}
	}
	ids = byID(ids)
	if got := s.Ids(); !slices.Equal(got, ids) || s.Len() != len(ids) {
		t.Fatalf("%s: %d ids, Len %d, want %d", what, len(got), s.Len(), len(ids))
	}
	i := 0
	for id, enc := range s.All() {
		if id != ids[i] || !bytes.Equal(enc, want[id]) {
			t.Fatalf("%s: All tells %x, %.40x at place %d", what, id, enc, i)
		}
		i++
	}
	if i != len(ids) {
		t.Fatalf("%s: All tells %d, want %d", what, i, len(ids))
	}
}

// absent asks after an id that isn't there.
func absent(t *testing.T, what string, s *Store, id api.ID) {
	t.Helper()
	if enc, e := s.Get(id); len(enc) > 0 || e != api.ErrStoreNone {
		t.Errorf("%s: Get: %.40x, %v", what, enc, e)
	}
	if kind, e := s.Kind(id); kind != api.KindNone || e != api.ErrStoreNone {
		t.Errorf("%s: Kind: %d, %v", what, kind, e)
	}
	if links, e := s.Children(id); len(links) > 0 || e != api.ErrStoreNone {
		t.Errorf("%s: Children: %v, %v", what, links, e)
	}
	if s.Has(id) || s.Remove(id) {
		t.Errorf("%s: it is there", what)
	}
	if found, e := s.Find(digest.Hex(id)); found != (api.ID{}) || e != api.ErrStoreNone {
		t.Errorf("%s: Find: %x, %v", what, found, e)
	}
}

func refused(t *testing.T, what string, s *Store, enc []byte, want api.Errno) {
	t.Helper()
	count := s.Len()
	id, fresh, e := s.Put(enc)
	if id != (api.ID{}) || fresh || e != want {
		t.Errorf("%s: Put(%.40x): %x, %v, %v, want %v", what, enc, id, fresh, e, want)
	}
	if s.Len() != count {
		t.Errorf("%s: Put(%.40x): %d objects, were %d", what, enc, s.Len(), count)
	}
}

func again(t *testing.T, what string, s *Store, enc []byte) {
	t.Helper()
	count := s.Len()
	id, fresh, e := s.Put(enc)
	if id != digest.Sum(enc) || fresh || e != api.OK || s.Len() != count {
		t.Errorf("%s: Put(%.40x): %x, %v, %v, %d objects", what, enc, id, fresh, e, s.Len())
	}
}

func found(t *testing.T, s *Store, prefix string, want api.ID) {
	t.Helper()
	if id, e := s.Find(prefix); id != want || e != api.OK {
		t.Errorf("Find(%q): %x, %v, want %x", prefix, id, e, want)
	}
}

func notFound(t *testing.T, s *Store, prefix string, want api.Errno) {
	t.Helper()
	if id, e := s.Find(prefix); id != (api.ID{}) || e != want {
		t.Errorf("Find(%q): %x, %v, want %v", prefix, id, e, want)
	}
}

func TestExamples(t *testing.T) { // P4.1 to P4.6
	s := New()
	hi, tree := []byte{1, 0x68, 0x69}, []byte{2, 0}
	x := put(t, s, hi)
	again(t, "the second time", s, hi)
	refused(t, "no bytes", s, nil, api.ErrStoreObject)
	refused(t, "a wrong kind", s, []byte{5}, api.ErrStoreObject)
	holds(t, "one object", s, hi)
	if kind, e := s.Kind(x); kind != api.KindBlob || e != api.OK {
		t.Errorf("Kind: %d, %v", kind, e)
	}
	if links, e := s.Children(x); len(links) > 0 || e != api.OK {
		t.Errorf("Children: %v, %v", links, e)
	}
	absent(t, "zeros", s, api.ID{})

	hex := digest.Hex(x)
	found(t, s, hex[:4], x)
	notFound(t, s, hex[:3], api.ErrStorePrefix)
	notFound(t, s, strings.ToUpper(hex[:4]), api.ErrStorePrefix)
	notFound(t, s, "0000", api.ErrStoreNone)

	put(t, s, tree)
	holds(t, "two objects", s, hi, tree)
	c := s.Copy()
	if !s.Remove(x) || s.Remove(x) {
		t.Error("Remove")
	}
	holds(t, "one is gone", s, tree)
	holds(t, "the copy", c, hi, tree)
	s.Clear()
	holds(t, "all are gone", s)
	holds(t, "the copy", c, hi, tree)
}

func TestNewIsEmpty(t *testing.T) { // P4.1
	s := New()
	holds(t, "a new store", s)
	absent(t, "a new store", s, digest.Sum(blob("hi")))
	absent(t, "a new store", s, api.ID{})
}

func TestPutAndWhatIsToldOfIt(t *testing.T) { // P4.1, P4.2
	s := New()
	encs := everyKind(t)
	for i, enc := range encs {
		put(t, s, enc)
		again(t, "the second time", s, enc)
		holds(t, "so far", s, encs[:i+1]...)
	}
	for _, enc := range encs {
		id := digest.Sum(enc)
		if kind, e := s.Kind(id); kind != int(enc[0]) || e != api.OK {
			t.Errorf("Kind of %.40x: %d, %v", enc, kind, e)
		}
		want, _ := object.Children(enc)
		if links, e := s.Children(id); !slices.Equal(links, want) || e != api.OK {
			t.Errorf("Children of %.40x: %v, %v, want %v", enc, links, e, want)
		}
	}
}

func TestPutRefusesWhatEncodesNothing(t *testing.T) { // P4.1
	errors := map[api.Errno]int{}
	full := fill(t, api.MaxStore)
	for _, s := range []*Store{New(), fill(t, 3), full} {
		for _, enc := range wrong() {
			_, e := object.Parse(enc)
			errors[e]++
			refused(t, "bytes that encode nothing", s, enc, api.ErrStoreObject)
			absent(t, "bytes that encode nothing", s, digest.Sum(enc))
		}
	}
	if len(errors) != 3 || errors[api.OK] > 0 {
		t.Errorf("the wrong bytes meet other errors than all those of Parse: %v", errors)
	}
}

func TestPutRefusesOtherBytesOfTheSameId(t *testing.T) { // P4.1, R7
	hi, other := blob("hi"), blob("ho")
	id := digest.Sum(hi)
	for _, there := range [][]byte{other, blob("h"), blob("hi "), {2, 0}} {
		s := fill(t, 3)
		plant(s, id, there)
		refused(t, "a clash", s, hi, api.ErrStoreClash)
		if enc, e := s.Get(id); !bytes.Equal(enc, there) || e != api.OK {
			t.Errorf("a clash replaces %x by %x, %v", there, enc, e)
		}
	}
	full := fill(t, api.MaxStore-1)
	plant(full, id, other)
	refused(t, "a clash in a full store", full, hi, api.ErrStoreClash)
	put(t, New(), hi)

	bad := []byte{5}
	s := New()
	plant(s, digest.Sum(bad), other)
	refused(t, "wrong bytes whose id is there", s, bad, api.ErrStoreObject)
}

func TestFullStore(t *testing.T) { // P4.1
	s := fill(t, api.MaxStore)
	if s.Len() != api.MaxStore || api.MaxStore != 8192 {
		t.Fatalf("%d objects", s.Len())
	}
	refused(t, "one more", s, blob("more"), api.ErrStoreFull)
	absent(t, "one more", s, digest.Sum(blob("more")))
	for _, n := range []int{0, 1, api.MaxStore - 1} {
		again(t, "one that is there", s, numbered(n))
	}
	c := s.Copy()
	refused(t, "one more into the copy", c, blob("more"), api.ErrStoreFull)
	if !s.Remove(digest.Sum(numbered(5))) {
		t.Error("Remove of a full store")
	}
	put(t, s, blob("more"))
	refused(t, "the removed one", s, numbered(5), api.ErrStoreFull)
	again(t, "the removed one is in the copy", c, numbered(5))
	s.Clear()
	put(t, s, numbered(5))
	holds(t, "a full store that was cleared", s, numbered(5))
}

func TestAbsentIds(t *testing.T) { // P4.2, P4.5
	s := fill(t, 20)
	x := digest.Sum(numbered(7))
	for bit := range 8 * len(x) {
		near := x
		near[bit/8] ^= 1 << (bit % 8)
		absent(t, "an id of one other bit", s, near)
	}
	if !s.Remove(x) {
		t.Fatal("Remove")
	}
	absent(t, "a removed one", s, x)
	absent(t, "zeros", s, api.ID{})
	if s.Len() != 19 {
		t.Errorf("%d objects", s.Len())
	}
}

func TestZeroIdIsLikeAnyOther(t *testing.T) { // P4.2
	s := fill(t, 3)
	plant(s, api.ID{}, blob("zeros"))
	enc, e := s.Get(api.ID{})
	if string(enc) != "\x01zeros" || e != api.OK || !s.Has(api.ID{}) || s.Ids()[0] != (api.ID{}) || s.Len() != 4 {
		t.Errorf("Get: %x, %v", enc, e)
	}
	if kind, e := s.Kind(api.ID{}); kind != api.KindBlob || e != api.OK {
		t.Errorf("Kind: %d, %v", kind, e)
	}
	if links, e := s.Children(api.ID{}); len(links) > 0 || e != api.OK {
		t.Errorf("Children: %v, %v", links, e)
	}
	found(t, s, "0000", api.ID{})
	if !s.Remove(api.ID{}) {
		t.Error("Remove")
	}
	absent(t, "zeros", s, api.ID{})
}

func TestIdsAreSorted(t *testing.T) { // P4.3, R9
	s := New()
	var want []api.ID
	for place := range 32 {
		for _, b := range []byte{1, 0x7f, 0x80, 0xff} {
			var id api.ID
			id[place] = b
			plant(s, id, blob("x"))
			want = append(want, id)
		}
	}
	want = byID(want)
	for range 20 { // a map is gone through in another order each time
		if got := s.Ids(); !slices.Equal(got, want) {
			t.Fatalf("Ids: %x", got)
		}
	}
	if s.Len() != len(want) {
		t.Errorf("Len: %d", s.Len())
	}
}

func TestPrefixesThatAreNone(t *testing.T) { // P4.4
	s := fill(t, 3)
	x := digest.Sum(numbered(0))
	hex := digest.Hex(x)
	for _, store := range []*Store{New(), s} {
		for n := range 4 {
			notFound(t, store, hex[:n], api.ErrStorePrefix)
		}
		for _, more := range []string{"0", "a", " ", "\x00", strings.Repeat("0", 64), strings.Repeat("0", 1<<16)} {
			notFound(t, store, hex+more, api.ErrStorePrefix)
		}
		for _, text := range []string{"ABCD", "abcD", " abcd", "abcd ", "0x12", "-123", "+123", "ééé", "\xff\xff\xff\xff", "*\x00\n~", "....", "1e+5"} {
			notFound(t, store, text, api.ErrStorePrefix)
		}
		for place := range hex {
			for _, sign := range "/:@AFG`gz\x00é" {
				notFound(t, store, hex[:place]+string(sign)+hex[place+1:], api.ErrStorePrefix)
			}
		}
	}
	for sign := range 256 {
		s := New()
		digit := strings.IndexByte("0123456789abcdef", byte(sign))
		if digit < 0 {
			notFound(t, s, "000"+string([]byte{byte(sign)}), api.ErrStorePrefix)
			continue
		}
		id := api.ID{0, byte(digit)}
		plant(s, id, blob("x"))
		found(t, s, "000"+string([]byte{byte(sign)}), id)
	}
}

func TestPrefixesOfEveryLength(t *testing.T) { // P4.4
	x := digest.Sum(numbered(0))
	hex := digest.Hex(x)
	alone := fill(t, 1)
	for n := 4; n <= 64; n++ {
		found(t, alone, hex[:n], x)
		notFound(t, New(), hex[:n], api.ErrStoreNone)
	}
	for place := range 64 { // the digit at which another id parts from x
		other := x
		other[place/2] ^= []byte{0x10, 0x01}[place%2]
		s := fill(t, 1)
		plant(s, other, blob("other"))
		for n := 4; n <= 64; n++ {
			if n <= place {
				notFound(t, s, hex[:n], api.ErrStoreMany)
				continue
			}
			found(t, s, hex[:n], x)
			found(t, s, digest.Hex(other)[:n], other)
		}
		if s.Remove(other); place >= 4 {
			found(t, s, hex[:4], x)
			notFound(t, s, digest.Hex(other), api.ErrStoreNone)
		}
	}
}

func TestFindAmongMany(t *testing.T) { // P4.4
	s := fill(t, 3000)
	alike := map[string]int{}
	for _, id := range s.Ids() {
		alike[digest.Hex(id)[:4]]++
	}
	several := 0
	for i, id := range s.Ids() {
		hex := digest.Hex(id)
		switch {
		case alike[hex[:4]] > 1:
			several++
			notFound(t, s, hex[:4], api.ErrStoreMany)
			found(t, s, hex, id)
		case i%50 == 0:
			found(t, s, hex[:4], id)
		}
	}
	if several < 2 {
		t.Error("no two ids have their first digits in common")
	}
}

func TestRemoveAndClear(t *testing.T) { // P4.5
	encs := everyKind(t)
	for i, enc := range encs {
		s := New()
		for _, enc := range encs {
			put(t, s, enc)
		}
		id := digest.Sum(enc)
		if !s.Remove(id) {
			t.Fatal("Remove")
		}
		absent(t, "a removed one", s, id)
		holds(t, "one is gone", s, slices.Delete(slices.Clone(encs), i, i+1)...)
		put(t, s, enc)
		holds(t, "it is back", s, encs...)
		s.Clear()
		holds(t, "all are gone", s)
		absent(t, "a cleared one", s, id)
		s.Clear()
		put(t, s, enc)
		holds(t, "one is back", s, enc)
	}
}

func TestCopy(t *testing.T) { // P4.6, P4.8
	a, b, c := blob("a"), blob("b"), blob("c")
	s := New()
	put(t, s, a)
	put(t, s, b)
	one := s.Copy()
	two := one.Copy()
	holds(t, "a copy", one, a, b)
	put(t, s, c)
	s.Remove(digest.Sum(a))
	holds(t, "the source", s, b, c)
	holds(t, "a copy of a changed source", one, a, b)
	one.Clear()
	holds(t, "a cleared copy", one)
	holds(t, "the source of a cleared copy", s, b, c)
	holds(t, "a copy of a cleared copy", two, a, b)
	put(t, two, c)
	two.Remove(digest.Sum(b))
	s.Clear()
	holds(t, "the last copy", two, a, c)
	holds(t, "a copy of nothing", New().Copy())

	empty := New()
	other := empty.Copy()
	put(t, empty, a)
	holds(t, "a copy of what was empty", other)
	put(t, other, b)
	holds(t, "the source that was empty", empty, a)
}

func TestStoresHaveNothingInCommon(t *testing.T) { // P4.8
	hi := blob("hi")
	s, other := New(), New()
	id := put(t, s, hi)
	holds(t, "another store", other)
	put(t, other, hi)
	c := s.Copy()
	spoil(s.encodings[id])
	holds(t, "a store of the same objects", other, hi)
	holds(t, "a copy", c, hi)
}

func TestAllTellsAll(t *testing.T) { // P4.7
	for range New().All() {
		t.Error("something of an empty store is told")
	}
	encs := everyKind(t)
	s := New()
	all := s.All() // a range tells what there is when it begins, not when All is called
	for _, enc := range encs {
		put(t, s, enc)
	}
	for range 3 {
		told := map[api.ID]int{}
		var last api.ID
		for id, enc := range all {
			if digest.Sum(enc) != id || bytes.Compare(last[:], id[:]) >= 0 {
				t.Fatalf("%x behind %x, with %.40x", id, last, enc)
			}
			last = id
			told[id]++
		}
		if len(told) != len(encs) {
			t.Errorf("%d of %d are told", len(told), len(encs))
		}
	}
}

func TestAllLeftEarly(t *testing.T) { // P4.7, R10
	s := fill(t, 12)
	ids := s.Ids()
	all := s.All()
	for most := range len(ids) + 1 {
		var told []api.ID
		for id := range all {
			if len(told) == most {
				break
			}
			told = append(told, id)
		}
		if !slices.Equal(told, ids[:most]) {
			t.Errorf("%d are told up to %d", len(told), most)
		}
	}
	calls := 0
	all(func(api.ID, []byte) bool {
		calls++
		return false
	})
	if calls != 1 {
		t.Errorf("%d calls of what has ended the range", calls)
	}
}

func TestAllWithinAll(t *testing.T) { // P4.7, R10
	s := fill(t, 6)
	ids := s.Ids()
	all := s.All()
	var pairs, want [][2]api.ID
	for a := range all {
		for b := range all {
			pairs = append(pairs, [2]api.ID{a, b})
		}
	}
	for _, a := range ids {
		for _, b := range ids {
			want = append(want, [2]api.ID{a, b})
		}
	}
	if !slices.Equal(pairs, want) {
		t.Errorf("%d pairs", len(pairs))
	}
}

func TestAllWhileTheStoreIsChanged(t *testing.T) { // P4.7, R10
	changes := map[string]func(s *Store, n int, id api.ID){
		"what is told goes":          func(s *Store, _ int, id api.ID) { s.Remove(id) },
		"what comes last goes":       func(s *Store, _ int, _ api.ID) { removeLast(s) },
		"all goes":                   func(s *Store, _ int, _ api.ID) { s.Clear() },
		"others come":                func(s *Store, n int, _ api.ID) { s.Put(numbered(100 + n)) },
		"all goes and others come":   func(s *Store, n int, _ api.ID) { s.Clear(); s.Put(numbered(100 + n)) },
		"what is told goes and back": func(s *Store, _ int, id api.ID) { enc, _ := s.Get(id); s.Remove(id); s.Put(enc) },
	}
	for what, change := range changes {
		s := fill(t, 30)
		all := s.All()
		before := s.Copy()
		checkRange(t, what, before.Ids(), all, func(n int, id api.ID) { change(s, n, id) })
		behind := s.Copy()
		checkRange(t, what+", the second range", behind.Ids(), all, func(n int, id api.ID) { change(s, 1000+n, id) })
		checkRange(t, what+", a copy", behind.Ids(), behind.All(), func(int, api.ID) { s.Clear() })
	}
}

func removeLast(s *Store) {
	if ids := s.Ids(); len(ids) > 0 {
		s.Remove(ids[len(ids)-1])
	}
}

// checkRange holds a range, with something done at each step, against the ids that it is to tell.
func checkRange(t *testing.T, what string, want []api.ID, all func(func(api.ID, []byte) bool), do func(n int, id api.ID)) {
	t.Helper()
	n := 0
	for id, enc := range all {
		if n >= len(want) || id != want[n] || digest.Sum(enc) != id {
			t.Fatalf("%s: %x with %.40x at place %d", what, id, enc, n)
		}
		do(n, id)
		n++
	}
	if n != len(want) {
		t.Errorf("%s: %d are told, want %d", what, n, len(want))
	}
}

// spoil overwrites bytes with the spare room behind their end.
func spoil(b []byte) {
	b = b[:cap(b)]
	for i := range b {
		b[i] ^= 0xaa
	}
}

// spoilList does the same to another list.
func spoilList[T any](list []T) {
	var zero T
	list = list[:cap(list)]
	for i := range list {
		list[i] = zero
	}
}

func TestPutLeavesWhatIsHandedIn(t *testing.T) { // P4.8, R2
	for _, enc := range everyKind(t) {
		room := append(bytes.Clone(enc), bytes.Repeat([]byte{0xee}, 50)...)
		was := bytes.Clone(room)
		s := New()
		for range 2 {
			s.Put(room[:len(enc)])
			for id, got := range s.All() {
				spoil(got)
				got, _ := s.Get(id)
				spoil(got)
			}
			if !bytes.Equal(room, was) {
				t.Fatal("what is handed in, or the room behind it, is changed")
			}
		}
		spoil(room)
		holds(t, "what was handed in is written to", s, enc)
	}
	s := fill(t, 2)
	for _, enc := range wrong() {
		room := append(bytes.Clone(enc), bytes.Repeat([]byte{0xee}, 50)...)
		was := bytes.Clone(room)
		if s.Put(room[:len(enc)]); !bytes.Equal(room, was) {
			t.Errorf("%.40x is changed", was)
		}
		spoil(room)
	}
	holds(t, "nothing was put", s, numbered(0), numbered(1))
}

func TestAnswersAreNewMemory(t *testing.T) { // P4.8, R2
	encs := everyKind(t)
	s := New()
	for _, enc := range encs {
		put(t, s, enc)
	}
	c := s.Copy()
	for _, enc := range encs {
		id := digest.Sum(enc)
		first, _ := s.Get(id)
		second, _ := s.Get(id)
		links, _ := s.Children(id)
		more, _ := s.Children(id)
		want, _ := object.Children(enc)
		spoil(first)
		spoilList(links)
		if !bytes.Equal(second, enc) || !slices.Equal(more, want) {
			t.Fatal("two answers share memory")
		}
	}
	ids, others := s.Ids(), s.Ids()
	was := slices.Clone(others)
	spoilList(ids)
	if !slices.Equal(others, was) {
		t.Error("two answers of Ids share memory")
	}
	var told [][]byte
	for _, enc := range s.All() {
		told = append(told, enc)
	}
	for i, enc := range told {
		spoil(enc)
		for _, other := range told[i+1:] {
			if object.Kind(other) == api.KindNone {
				t.Fatal("two answers of All share memory")
			}
		}
	}
	holds(t, "all answers are written to", s, encs...)
	holds(t, "the copy", c, encs...)
}

// TestAgainstAModel does many things to a store and to a plain map, and holds them against each other.
func TestAgainstAModel(t *testing.T) { // P4.1 to P4.7
	r := rand.New(rand.NewSource(4))
	s := New()
	model := map[string][]byte{}
	for step := range 4000 {
		enc := numbered(r.Intn(40))
		id := digest.Sum(enc)
		_, there := model[string(id[:])]
		switch choice := r.Intn(40); {
		case choice < 22:
			got, fresh, e := s.Put(enc)
			if got != id || fresh == there || e != api.OK {
				t.Fatalf("step %d: Put: %v, %v", step, fresh, e)
			}
			model[string(id[:])] = enc
		case choice < 37:
			if s.Remove(id) != there {
				t.Fatalf("step %d: Remove: %v", step, !there)
			}
			delete(model, string(id[:]))
		case choice == 37:
			s.Clear()
			model = map[string][]byte{}
		case choice == 38:
			old := s
			s = s.Copy()
			old.Clear()
		default:
			s.Put(wrong()[r.Intn(len(wrong()))])
		}
		var encs [][]byte
		for _, enc := range model {
			encs = append(encs, enc)
		}
		holds(t, fmt.Sprint("step ", step), s, encs...)
		if _, there := model[string(id[:])]; there {
			found(t, s, digest.Hex(id), id)
		} else {
			absent(t, fmt.Sprint("step ", step), s, id)
		}
	}
}

func TestGreatArgumentsTakeNoMemory(t *testing.T) { // R6
	s := fill(t, 3)
	great := make([]byte, 1<<26)
	great[0] = api.KindBlob
	text := strings.Repeat("a", 1<<26)
	var before, behind runtime.MemStats
	runtime.ReadMemStats(&before)
	refused(t, "64 MiB", s, great, api.ErrStoreObject)
	if id, e := s.Find(text); id != (api.ID{}) || e != api.ErrStorePrefix {
		t.Errorf("Find of 64 MiB: %x, %v", id, e)
	}
	runtime.ReadMemStats(&behind)
	if took := behind.TotalAlloc - before.TotalAlloc; took > 1<<20 {
		t.Errorf("%d bytes are taken for what is refused", took)
	}
}
