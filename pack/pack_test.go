package pack

import (
	"bytes"
	"crypto/sha256"
	"fmt"
	"math"
	"slices"
	"strings"
	"testing"

	"satchel/api"
	"satchel/code"
	"satchel/delta"
	"satchel/press"
)

func blob(s string) []byte { return append([]byte{1}, s...) }

// rec is a record by hand.
type rec struct {
	id   api.ID
	form byte
	base api.ID
	size int
	data []byte
}

// plainly tells bytes by method 0 of chapter 8.
func plainly(b []byte) []byte {
	w := code.New()
	w.U8(0)
	w.Bytes(b)
	return w.Out()
}

func alone(enc []byte) rec {
	return rec{id: sha256.Sum256(enc), form: 1, size: len(enc), data: plainly(enc)}
}

func pressed(enc []byte) rec {
	x := alone(enc)
	x.data, _ = press.Press(enc)
	return x
}

func onBase(base, enc []byte) rec {
	d, _ := delta.Make(base, enc)
	return rec{id: sha256.Sum256(enc), form: 2, base: sha256.Sum256(base), size: len(enc), data: plainly(d)}
}

// with changes a record.
func with(x rec, change func(x *rec)) rec {
	change(&x)
	return x
}

func seal(body []byte) []byte {
	sum := sha256.Sum256(body)
	return append(slices.Clone(body), sum[:]...)
}

func head(number uint64) []byte {
	w := code.New()
	w.Raw([]byte("SPAK\x01"))
	w.Var(number)
	return w.Out()
}

func (x rec) bytes() []byte {
	w := code.New()
	w.Raw(x.id[:])
	w.U8(x.form)
	if x.form == 2 {
		w.Raw(x.base[:])
	}
	w.Var(uint64(x.size))
	w.Bytes(x.data)
	return w.Out()
}

func bodyOf(l []rec) []byte {
	b := head(uint64(len(l)))
	for _, x := range l {
		b = append(b, x.bytes()...)
	}
	return b
}

// sortedRecs sorts by id; once: the first of an id alone.
func sortedRecs(l []rec, once bool) []rec {
	l = slices.Clone(l)
	slices.SortStableFunc(l, func(a, b rec) int { return bytes.Compare(a.id[:], b.id[:]) })
	if once {
		l = slices.CompactFunc(l, func(a, b rec) bool { return a.id == b.id })
	}
	return l
}

// lay is a pack of records.
func lay(l ...rec) []byte { return seal(bodyOf(sortedRecs(l, false))) }

// sorted is objects as Decode tells them.
func sorted(l [][]byte) [][]byte {
	l = slices.Clone(l)
	slices.SortFunc(l, func(a, b []byte) int {
		x, y := sha256.Sum256(a), sha256.Sum256(b)
		return bytes.Compare(x[:], y[:])
	})
	return slices.CompactFunc(l, bytes.Equal)
}

func idsOf(l [][]byte) []api.ID {
	var ids []api.ID
	for _, enc := range sorted(l) {
		ids = append(ids, sha256.Sum256(enc))
	}
	return ids
}

// versions are texts each of which is the one ahead and a byte more.
func versions(n int) [][]byte {
	l := [][]byte{blob("version")}
	for len(l) < n {
		l = append(l, append(slices.Clone(l[len(l)-1]), 'x'))
	}
	return l
}

// chain is deltas, each on the text ahead.
func chain(texts [][]byte) []rec {
	var l []rec
	for i := range len(texts) - 1 {
		l = append(l, onBase(texts[i], texts[i+1]))
	}
	return l
}

// full are whole records of n objects of 65536 bytes; together they take few bytes.
func full(n int) ([]rec, [][]byte) {
	var l []rec
	var texts [][]byte
	for i := range n {
		enc := append([]byte{1, byte(i)}, make([]byte, api.MaxObject-2)...)
		texts = append(texts, enc)
		l = append(l, pressed(enc))
	}
	return l, texts
}

func numbered(n int) [][]byte {
	var l [][]byte
	for i := range n {
		l = append(l, blob(fmt.Sprint(i)))
	}
	return l
}

func wholes(texts [][]byte) []rec {
	var l []rec
	for _, enc := range texts {
		l = append(l, alone(enc))
	}
	return l
}

// noise is bytes that cannot be pressed.
func noise(n int, seed byte) []byte {
	var b []byte
	for i := 0; len(b) < n; i++ {
		sum := sha256.Sum256([]byte{seed, byte(i), byte(i >> 8)})
		b = append(b, sum[:]...)
	}
	return b[:n]
}

// filled is a pack of just MaxPack bytes.
func filled() ([]byte, [][]byte) {
	var texts [][]byte
	for i := range 15 {
		texts = append(texts, blob(string(noise(65500, byte(i)))))
	}
	rest := api.MaxPack - len(lay(wholes(texts)...))
	// The record of the last one takes 43 bytes beside it: its id, its form, four bytes of data's method and length, and two lengths of three bytes.
	texts = append(texts, blob(string(noise(rest-44, 99))))
	return lay(wholes(texts)...), texts
}

func TestExamples(t *testing.T) { // P9.1, P9.2, P9.3
	empty := []byte{0x53, 0x50, 0x41, 0x4b, 1, 0}
	b, e := Encode(nil, nil)
	if e != api.OK || !bytes.Equal(b, seal(empty)) {
		t.Errorf("no objects: %x, %d", b, e)
	}
	if l, e := Decode(b, nil); e != api.OK || len(l) != 0 {
		t.Errorf("of no objects: %x, %d", l, e)
	}
	b, e = Encode([][]byte{{1, 'h', 'i'}}, nil)
	if want := lay(alone([]byte{1, 'h', 'i'})); e != api.OK || !bytes.Equal(b, want) {
		t.Errorf("the blob hi: %x, %d, want %x", b, e, want)
	}
	ids, _ := Ids(b)
	needs, e := Needs(b)
	if !slices.Equal(ids, []api.ID{sha256.Sum256([]byte{1, 'h', 'i'})}) || len(needs) != 0 || e != api.OK {
		t.Errorf("the blob hi: ids %x, needs %x, %d", ids, needs, e)
	}
}

// Two texts that share much.
const (
	textA = "something long that comes again: a"
	textB = "something long that comes again: b"
)

func TestDecodeGives(t *testing.T) { // P9.1, P9.2
	a, b, c := blob(textA), blob(textB), blob("c")
	odd := []byte{7, 7, 7}
	eight := versions(9)
	limit, limitTexts := full(64)
	most, mostTexts := filled()
	if len(most) != api.MaxPack {
		t.Fatalf("a pack of %d bytes", len(most))
	}
	many := numbered(1024)
	longer := append([]byte{1}, bytes.Repeat([]byte("ab"), 300)...)
	twoSteps, _ := delta.Make(a, b)
	half := blob(string(noise(32765, 1)))
	if n := len(oneByOne(c, half)); n != api.MaxObject {
		t.Fatalf("a delta of %d bytes", n)
	}
	coded, _ := press.Press(longer)
	if coded[0] != 1 {
		t.Fatal("not coded")
	}
	for _, x := range []struct {
		name        string
		b           []byte
		bases, want [][]byte
		needs       [][]byte
	}{
		{"none", lay(), nil, nil, nil},
		{"one", lay(alone(c)), nil, [][]byte{c}, nil},
		{"a blob of no bytes", lay(alone([]byte{1})), nil, [][]byte{{1}}, nil},
		{"the empty tree", lay(alone([]byte{2, 0})), nil, [][]byte{{2, 0}}, nil},
		{"plain where codes are shorter", lay(alone(longer)), nil, [][]byte{longer}, nil},
		{"codes", lay(pressed(longer)), nil, [][]byte{longer}, nil},
		{"a delta that is pressed", lay(with(onBase(a, b), func(x *rec) { x.data, _ = press.Press(twoSteps) })), [][]byte{a}, [][]byte{b}, [][]byte{a}},
		{"a delta of new bytes alone", lay(with(onBase(a, c), func(x *rec) { x.data = plainly([]byte{byte(len(a)), 2, 4, 1, 'c'}) })), [][]byte{a}, [][]byte{c}, [][]byte{a}},
		{"a delta within", lay(onBase(a, b), alone(a)), nil, [][]byte{a, b}, nil},
		{"a delta the other way", lay(onBase(b, a), alone(b)), nil, [][]byte{a, b}, nil},
		{"a base inside and handed in", lay(onBase(a, b), alone(a)), [][]byte{a}, [][]byte{a, b}, nil},
		{"two on one base", lay(onBase(a, b), onBase(a, c)), [][]byte{a}, [][]byte{b, c}, [][]byte{a}},
		{"two bases", lay(onBase(a, b), onBase(odd, c)), [][]byte{odd, a}, [][]byte{b, c}, [][]byte{a, odd}},
		{"the base several times, others beside it", lay(onBase(a, b)), [][]byte{c, odd, a, nil, a, c}, [][]byte{b}, [][]byte{a}},
		{"a base that is no encoding", lay(onBase(odd, c)), [][]byte{odd}, [][]byte{c}, [][]byte{odd}},
		{"a base of no bytes", lay(onBase(nil, c)), [][]byte{nil}, [][]byte{c}, [][]byte{nil}},
		{"bases where none is needed", lay(alone(c)), [][]byte{c, odd, nil}, [][]byte{c}, nil},
		{"a pack that is told by another object of its own id's list", lay(alone(b), onBase(b, a)), [][]byte{odd}, [][]byte{a, b}, nil},
		{"eight on a whole one", lay(append(chain(eight), alone(eight[0]))...), nil, eight, nil},
		{"eight on one handed in", lay(chain(eight)...), eight[:1], eight[1:], eight[:1]},
		{"1024", lay(wholes(many)...), nil, many, nil},
		{"sizes of 1 << 22 together", lay(limit...), nil, limitTexts, nil},
		{"MaxPack bytes", most, nil, mostTexts, nil},
		{"a delta of 65536 bytes", lay(with(onBase(c, half), func(x *rec) { x.data = plainly(oneByOne(c, half)) })), [][]byte{c}, [][]byte{half}, [][]byte{c}},
		{"65536 bytes on 65536", lay(onBase(limitTexts[0], limitTexts[1])), limitTexts[:1], limitTexts[1:2], limitTexts[:1]},
	} {
		l, e := Decode(x.b, x.bases)
		if e != api.OK || !same(l, sorted(x.want)) {
			t.Errorf("%s: %d objects, %d", x.name, len(l), e)
		}
		if ids, e := Ids(x.b); e != api.OK || !slices.Equal(ids, idsOf(x.want)) {
			t.Errorf("%s: ids %x, %d", x.name, ids, e)
		}
		if needs, e := Needs(x.b); e != api.OK || !slices.Equal(needs, idsOf(x.needs)) {
			t.Errorf("%s: needs %x, %d", x.name, needs, e)
		}
	}
}

// refusal is a pack that is refused.
type refusal struct {
	name  string
	b     []byte
	bases [][]byte
	want  api.Errno
}

// refusedByForm: right digests over bytes that have not the form, and what comes ahead of that.
func refusedByForm() []refusal {
	c := alone(blob("c"))
	one := func(change func(x *rec)) []byte { return lay(with(c, change)) }
	body := func(parts ...[]byte) []byte { return seal(slices.Concat(parts...)) }
	low, high := with(c, func(x *rec) { x.id = api.ID{1} }), with(c, func(x *rec) { x.id = api.ID{2} })
	start := append(slices.Clone(c.id[:]), 1)
	big := []byte("\xff\xff\xff\xff\xff\xff\xff\xff\xff\x01")
	return []refusal{
		{"no bytes", nil, nil, api.ErrPackSum},
		{"31 bytes", make([]byte, 31), nil, api.ErrPackSum},
		{"32 bytes", make([]byte, 32), nil, api.ErrPackSum},
		{"a pack without its digest", bodyOf([]rec{c}), nil, api.ErrPackSum},
		{"a byte behind", append(lay(c), 0), nil, api.ErrPackSum},
		{"MaxPack bytes 0", make([]byte, api.MaxPack), nil, api.ErrPackSum},
		{"MaxPack and one", make([]byte, api.MaxPack+1), nil, api.ErrPackLong},
		{"the digest of nothing", seal(nil), nil, api.ErrPackForm},
		{"a mark alone", seal([]byte("SPAK")), nil, api.ErrPackForm},
		{"no number", seal([]byte("SPAK\x01")), nil, api.ErrPackForm},
		{"another mark", seal([]byte("SPAC\x01\x00")), nil, api.ErrPackForm},
		{"another first byte of the mark", seal([]byte("spAK\x01\x00")), nil, api.ErrPackForm},
		{"version 2", seal([]byte("SPAK\x02\x00")), nil, api.ErrPackForm},
		{"version 0", seal([]byte("SPAK\x00\x00")), nil, api.ErrPackForm},
		{"a number that is not the shortest", seal([]byte("SPAK\x01\x80\x00")), nil, api.ErrPackForm},
		{"a number that is cut", seal([]byte("SPAK\x01\x80")), nil, api.ErrPackForm},
		{"a number above 64 bits", seal([]byte("SPAK\x01\xff\xff\xff\xff\xff\xff\xff\xff\xff\x02")), nil, api.ErrPackForm},
		{"the greatest number", seal(append([]byte("SPAK\x01"), big...)), nil, api.ErrPackForm},
		{"the greatest number and one record", body(head(math.MaxUint64), c.bytes()), nil, api.ErrPackForm},
		{"2^32 records and one", body(head(1<<32+1), c.bytes()), nil, api.ErrPackForm},
		{"one record fewer than told", body(head(2), c.bytes()), nil, api.ErrPackForm},
		{"one record more than told", body(head(0), c.bytes()), nil, api.ErrPackForm},
		{"a byte behind none", seal([]byte("SPAK\x01\x00\x00")), nil, api.ErrPackForm},
		{"a byte behind a record", body(bodyOf([]rec{c}), []byte{0}), nil, api.ErrPackForm},
		{"form 0", one(func(x *rec) { x.form = 0 }), nil, api.ErrPackForm},
		{"form 3", one(func(x *rec) { x.form = 3 }), nil, api.ErrPackForm},
		{"form 255", one(func(x *rec) { x.form = 255 }), nil, api.ErrPackForm},
		{"a size of MaxObject and one", one(func(x *rec) { x.size = api.MaxObject + 1 }), nil, api.ErrPackForm},
		{"a delta's size of MaxObject and one", lay(with(onBase(nil, blob("c")), func(x *rec) { x.size = api.MaxObject + 1 })), nil, api.ErrPackForm},
		{"a size that is right but for bit 32", one(func(x *rec) { x.size += 1 << 32 }), nil, api.ErrPackForm},
		{"the greatest size", body(head(1), start, big, []byte{0}), nil, api.ErrPackForm},
		{"a size that is not the shortest", body(head(1), start, []byte{0x82, 0}, []byte{4, 0, 2, 1, 'c'}), nil, api.ErrPackForm},
		{"a size that is cut", body(head(1), start, []byte{0x82}), nil, api.ErrPackForm},
		{"no size", body(head(1), start), nil, api.ErrPackForm},
		{"no data", body(head(1), start, []byte{2}), nil, api.ErrPackForm},
		{"a length of data that is not the shortest", body(head(1), start, []byte{2}, []byte{0x84, 0, 0, 2, 1, 'c'}), nil, api.ErrPackForm},
		{"data that are longer than what is there", body(head(1), start, []byte{2}, []byte{5, 0, 2, 1, 'c'}), nil, api.ErrPackForm},
		{"data that are shorter", body(head(1), start, []byte{2}, []byte{3, 0, 2, 1, 'c'}), nil, api.ErrPackForm},
		{"data of 2^63 bytes", body(head(1), start, []byte{2}, []byte("\x80\x80\x80\x80\x80\x80\x80\x80\x80\x01"), []byte{0, 2, 1, 'c'}), nil, api.ErrPackForm},
		{"data of the greatest length", body(head(1), start, []byte{2}, big), nil, api.ErrPackForm},
		{"a delta whose base is cut", body(head(1), c.id[:], []byte{2}, make([]byte, 31)), nil, api.ErrPackForm},
		{"ids that fall", body(head(2), high.bytes(), low.bytes()), nil, api.ErrPackForm},
		{"an id twice", body(head(2), c.bytes(), c.bytes()), nil, api.ErrPackForm},
		{"an id twice, whole and told", lay(c, onBase(blob("x"), blob("c"))), [][]byte{blob("x")}, api.ErrPackForm},
		{"the form is wrong behind 1024 records", body(bodyOf(sortedRecs(wholes(numbered(1025)), true)), []byte{0}), nil, api.ErrPackForm},
	}
}

// refusedBehindTheForm: packs of the form that are refused.
func refusedBehindTheForm() []refusal {
	a, b, c := blob(textA), blob(textB), blob("c")
	full64, _ := full(64)
	half := blob(string(noise(32766, 1)))
	full65, _ := full(65)
	nine := versions(10)
	ring := versions(3)
	threesome := []rec{onBase(ring[1], ring[0]), onBase(ring[2], ring[1]), onBase(ring[0], ring[2])}
	d, _ := delta.Make(a, b)
	data := func(x rec, data []byte) []byte { return lay(with(x, func(x *rec) { x.data = data })) }
	sized := func(x rec, by int) []byte { return lay(with(x, func(x *rec) { x.size += by })) }
	other := func(x rec) []byte { return lay(with(x, func(x *rec) { x.id[31] ^= 1 })) }
	huge := make([]byte, api.MaxObject+1)
	hugeID := sha256.Sum256(huge)
	return []refusal{
		{"1025 records", lay(wholes(numbered(1025))...), nil, api.ErrPackMany},
		{"sizes of 1 << 22 and one", lay(append(full64, with(alone(c), func(x *rec) { x.size = 1 }))...), nil, api.ErrPackMany},
		{"65 sizes of MaxObject", lay(full65...), nil, api.ErrPackMany},
		{"1025 records without any data", lay(emptied(1025)...), nil, api.ErrPackMany},
		{"20000 records without any data", lay(emptied(20000)...), nil, api.ErrPackMany},
		{"no base", lay(onBase(a, b)), nil, api.ErrPackBase},
		{"another base", lay(onBase(a, b)), [][]byte{b, c}, api.ErrPackBase},
		{"one of two bases", lay(onBase(a, b), onBase(c, a)), nil, api.ErrPackBase},
		{"the zero id as a base", lay(with(onBase(a, b), func(x *rec) { x.base = api.ID{} })), [][]byte{a, nil}, api.ErrPackBase},
		{"one's own base", lay(onBase(a, a)), nil, api.ErrPackChain},
		{"one's own base, handed in", lay(onBase(a, a)), [][]byte{a}, api.ErrPackChain},
		{"each other's base", lay(onBase(a, b), onBase(b, a)), nil, api.ErrPackChain},
		{"each other's base, handed in", lay(onBase(a, b), onBase(b, a)), [][]byte{a, b}, api.ErrPackChain},
		{"a ring of three", lay(threesome...), nil, api.ErrPackChain},
		{"one on a ring", lay(append(threesome, onBase(ring[0], c))...), nil, api.ErrPackChain},
		{"nine on a whole one", lay(append(chain(nine), alone(nine[0]))...), nil, api.ErrPackChain},
		{"nine on one handed in", lay(chain(nine)...), nine[:1], api.ErrPackChain},
		{"nine on a whole one, of which some are handed in", lay(append(chain(nine), alone(nine[0]))...), nine, api.ErrPackChain},
		{"data of no bytes", data(alone(c), nil), nil, api.ErrPackData},
		{"data that cannot be unpressed", data(alone(c), []byte{9}), nil, api.ErrPackData},
		{"data with a byte behind", data(alone(c), append(plainly(c), 0)), nil, api.ErrPackData},
		{"data longer than the size by one", sized(alone(c), -1), nil, api.ErrPackData},
		{"data shorter than the size by one", sized(alone(c), 1), nil, api.ErrPackData},
		{"three bytes of size 2", lay(with(alone([]byte{1, 'h', 'i'}), func(x *rec) { x.size = 2 })), nil, api.ErrPackData},
		{"a size of 0", sized(alone(c), -2), nil, api.ErrPackData},
		{"another id", other(alone(c)), nil, api.ErrPackData},
		{"another object of the same length", data(alone(a), plainly(b)), nil, api.ErrPackData},
		{"a whole one's data as a delta's", data(onBase(a, b), plainly(b)), [][]byte{a}, api.ErrPackData},
		{"a delta as a whole one's data", data(alone(b), plainly(d)), nil, api.ErrPackData},
		{"a delta's data that cannot be unpressed", data(onBase(a, b), d), [][]byte{a}, api.ErrPackData},
		{"a delta's data of no bytes", data(onBase(a, b), nil), [][]byte{a}, api.ErrPackData},
		{"no delta", data(onBase(a, b), plainly([]byte{1, 2, 3})), [][]byte{a}, api.ErrPackData},
		{"a delta of nothing", data(onBase(a, b), plainly(nil)), [][]byte{a}, api.ErrPackData},
		{"a delta with a byte behind", data(onBase(a, b), plainly(append(slices.Clone(d), 0))), [][]byte{a}, api.ErrPackData},
		{"a delta that is cut", data(onBase(a, b), plainly(d[:len(d)-1])), [][]byte{a}, api.ErrPackData},
		{"a delta of another base's length", data(onBase(a, b), plainly(deltaOf(c, b))), [][]byte{a}, api.ErrPackData},
		{"a delta that gives another object of the same length", data(onBase(a, b), plainly(deltaOf(a, a))), [][]byte{a}, api.ErrPackData},
		{"a delta that gives another length", data(onBase(a, b), plainly(deltaOf(a, c))), [][]byte{a}, api.ErrPackData},
		{"a delta longer than the size by one", sized(onBase(a, b), -1), [][]byte{a}, api.ErrPackData},
		{"a delta shorter than the size by one", sized(onBase(a, b), 1), [][]byte{a}, api.ErrPackData},
		{"a delta of another id", other(onBase(a, b)), [][]byte{a}, api.ErrPackData},
		{"a delta of more than MaxObject bytes", data(onBase(c, half), plainly(oneByOne(c, half))), [][]byte{c}, api.ErrPackData},
		{"a base that is longer than an object", lay(with(onBase(a, b), func(x *rec) { x.base = hugeID })), [][]byte{huge}, api.ErrPackData},
		{"on a base that is not what it says", lay(onBase(a, b), with(alone(c), func(x *rec) { x.id = sha256.Sum256(a) })), [][]byte{a}, api.ErrPackData},
		{"64 full ones whose data are others", lay(swapped(full64)...), nil, api.ErrPackData},
		{"no encoding", lay(alone([]byte{7, 1})), nil, api.ErrPackObject},
		{"no bytes", lay(alone(nil)), nil, api.ErrPackObject},
		{"a tree that is cut", lay(alone([]byte{2, 1})), nil, api.ErrPackObject},
		{"a delta that gives no encoding", lay(onBase(a, a[1:])), [][]byte{a}, api.ErrPackObject},
		{"right ones on one that is no encoding", lay(alone(a[1:]), onBase(a[1:], a), onBase(a, b)), nil, api.ErrPackObject},
		{"no encoding, and wrong data on it", lay(alone(a[1:]), with(onBase(a[1:], a), func(x *rec) { x.size++ })), nil, api.ErrPackData},
	}
}

func deltaOf(base, enc []byte) []byte {
	d, _ := delta.Make(base, enc)
	return d
}

// oneByOne is a delta of new bytes alone, a command for each.
func oneByOne(base, enc []byte) []byte {
	w := code.New()
	w.Var(uint64(len(base)))
	w.Var(uint64(len(enc)))
	for _, c := range enc {
		w.Var(2)
		w.U8(c)
	}
	return w.Out()
}

// emptied are records of size 0 under any ids.
func emptied(n int) []rec {
	l := wholes(numbered(n))
	for i := range l {
		l[i].size, l[i].data = 0, nil
	}
	return l
}

// swapped gives each record the data of the next.
func swapped(l []rec) []rec {
	l = slices.Clone(l)
	first := l[0].data
	for i := range l {
		next := first
		if i+1 < len(l) {
			next = l[i+1].data
		}
		l[i].data = next
	}
	return l
}

func TestRefused(t *testing.T) { // P9.1, P9.2, R4, R5
	for _, x := range slices.Concat(refusedByForm(), refusedBehindTheForm()) {
		l, e := Decode(x.b, x.bases)
		if e != x.want || len(l) > 0 {
			t.Errorf("%s: %d objects, %d, want %d", x.name, len(l), e, x.want)
		}
		want := x.want
		if want > api.ErrPackMany {
			want = api.OK
		}
		ids, e := Ids(x.b)
		needs, f := Needs(x.b)
		if e != want || f != want || want != api.OK && len(ids)+len(needs) > 0 {
			t.Errorf("%s: Ids %x, %d, Needs %x, %d, want %d", x.name, ids, e, needs, f, want)
		}
		agree(t, x.b, x.bases)
	}
}

// faulty is a pack with any of the faults; the lowest bit stands for the one that is told first.
func faulty(faults int) []byte {
	has := func(e api.Errno) bool { return faults>>(e-api.ErrPackLong)&1 == 1 }
	l := wholes(numbered(20))
	if has(api.ErrPackObject) {
		l = append(l, alone([]byte{7, 1}), alone([]byte{7, 2}), alone([]byte{7, 3}))
	}
	if has(api.ErrPackData) {
		l = append(l, with(alone(blob("wrong")), func(x *rec) { x.size-- }))
	}
	if has(api.ErrPackChain) {
		l = append(l, onBase(blob("ring"), blob("ring")))
	}
	if has(api.ErrPackBase) {
		l = append(l, onBase(blob("gone"), blob("told")))
	}
	if has(api.ErrPackMany) {
		for i := range 65 {
			l = append(l, with(alone(blob(fmt.Sprint("full ", i))), func(x *rec) { x.size = api.MaxObject }))
		}
	}
	body := bodyOf(sortedRecs(l, false))
	if has(api.ErrPackForm) {
		body[4]++
	}
	b := seal(body)
	if has(api.ErrPackSum) {
		b[len(b)-1] ^= 1
	}
	if has(api.ErrPackLong) {
		b = append(b, make([]byte, api.MaxPack)...)
	}
	return b
}

func TestTheFirstOfSeveralFaults(t *testing.T) { // P9.1: each is asked of the whole, in the order named
	for faults := range 256 {
		want := api.OK
		for e := api.ErrPackObject; e >= api.ErrPackLong; e-- {
			if faults>>(e-api.ErrPackLong)&1 == 1 {
				want = e
			}
		}
		if _, e := Decode(faulty(faults), nil); e != want {
			t.Errorf("faults %08b: %d, want %d", faults, e, want)
		}
	}
}

func TestDataAheadOfObjectWhereverTheyStand(t *testing.T) { // P9.1, P9.7
	for n := range 40 {
		var l []rec
		for i := range 40 {
			l = append(l, alone([]byte{7, byte(i)}))
		}
		l = sortedRecs(l, true)
		l[n].size++
		for range 5 {
			if _, e := Decode(lay(l...), nil); e != api.ErrPackData {
				t.Fatalf("record %d is wrong, all are no encodings: %d", n, e)
			}
		}
	}
}

func TestBasesInAnyOrder(t *testing.T) { // P9.1
	var bases, objs [][]byte
	var l []rec
	for i := range 6 {
		bases = append(bases, blob(textA+fmt.Sprint(i)))
		objs = append(objs, blob(textB+fmt.Sprint(i)))
		l = append(l, onBase(bases[i], objs[i]))
	}
	b := lay(l...)
	for turn := range bases {
		turned := slices.Concat(bases[turn:], bases[:turn], bases[:2], [][]byte{blob("more"), nil})
		if got, e := Decode(b, turned); e != api.OK || !same(got, sorted(objs)) {
			t.Errorf("turned by %d: %d objects, %d", turn, len(got), e)
		}
		slices.Reverse(turned)
		if got, e := Decode(b, turned); e != api.OK || !same(got, sorted(objs)) {
			t.Errorf("turned by %d, backwards: %d objects, %d", turn, len(got), e)
		}
		few := slices.Concat(bases[:turn], bases[turn+1:])
		if got, e := Decode(b, few); e != api.ErrPackBase || len(got) > 0 {
			t.Errorf("without base %d: %d objects, %d", turn, len(got), e)
		}
	}
}

// sample is a pack with records of both forms, and its bases.
func sample() ([]byte, [][]byte) {
	a := blob(textA)
	return lay(alone(blob("c")), onBase(a, blob(textB)), pressed(blob(strings.Repeat("ab", 200))), alone([]byte{2, 0})), [][]byte{a}
}

func TestCutAndTurned(t *testing.T) { // P9.5
	b, bases := sample()
	for n := range b {
		if _, e := Decode(b[:n], bases); e != api.ErrPackSum {
			t.Errorf("cut to %d bytes: %d", n, e)
		}
		if _, e := Decode(slices.Delete(slices.Clone(b), n, n+1), bases); e != api.ErrPackSum {
			t.Errorf("byte %d is lost: %d", n, e)
		}
		for bit := range 8 {
			c := slices.Clone(b)
			c[n] ^= 1 << bit
			if _, e := Decode(c, bases); e != api.ErrPackSum {
				t.Errorf("bit %d of byte %d: %d", bit, n, e)
			}
		}
	}
	for n := range len(b) + 1 {
		for _, c := range []byte{0, 1, 0x80, 0xff} {
			if _, e := Decode(slices.Insert(slices.Clone(b), n, c), bases); e != api.ErrPackSum {
				t.Errorf("%x at %d: %d", c, n, e)
			}
		}
	}
}

func TestCutAndTurnedUnderARightDigest(t *testing.T) { // P9.1, P9.2, R5
	b, bases := sample()
	body := b[:len(b)-32]
	for n := range body {
		if e := agree(t, seal(body[:n]), bases); e != api.ErrPackForm {
			t.Errorf("cut to %d bytes: %d", n, e)
		}
		for bit := range 8 {
			c := slices.Clone(body)
			c[n] ^= 1 << bit
			agree(t, seal(c), bases)
		}
		agree(t, seal(slices.Insert(slices.Clone(body), n, 0)), bases)
		agree(t, seal(slices.Delete(slices.Clone(body), n, n+1)), bases)
	}
}
