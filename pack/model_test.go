package pack

import (
	"bytes"
	"crypto/sha256"
	"math/rand"
	"slices"
	"testing"

	"satchel/api"
	"satchel/delta"
	"satchel/object"
	"satchel/press"
)

// plainRecord is a record as the model reads it.
type plainRecord struct {
	id   api.ID
	form byte
	base api.ID
	size uint64
	data []byte
}

// plainBytes is what is left to be read; bad: something was not there.
type plainBytes struct {
	left []byte
	bad  bool
}

func (p *plainBytes) raw(n uint64) []byte {
	if p.bad || n > uint64(len(p.left)) {
		p.bad = true
		return nil
	}
	text := p.left[:n]
	p.left = p.left[n:]
	return text
}

func (p *plainBytes) id() api.ID {
	var id api.ID
	copy(id[:], p.raw(32))
	return id
}

func (p *plainBytes) byte() byte {
	if text := p.raw(1); len(text) == 1 {
		return text[0]
	}
	return 0
}

// number reads a Var by the words of chapter 1.
func (p *plainBytes) number() uint64 {
	var n uint64
	for i := range 10 {
		c := p.byte()
		if i == 9 && c > 1 || i > 0 && c == 0 {
			p.bad = true
		}
		n |= uint64(c&0x7f) << (7 * i)
		if p.bad || c < 0x80 {
			break
		}
	}
	return n
}

// plainRead reads records by the words of 'The form'.
func plainRead(body []byte) ([]plainRecord, bool) {
	p := &plainBytes{left: body}
	if string(p.raw(4)) != "SPAK" || p.byte() != 1 {
		return nil, false
	}
	var l []plainRecord
	for n := p.number(); n > 0 && !p.bad; n-- {
		r := plainRecord{id: p.id(), form: p.byte()}
		switch r.form {
		case 1:
		case 2:
			r.base = p.id()
		default:
			p.bad = true
		}
		r.size = p.number()
		r.data = p.raw(p.number())
		if r.size > 65536 || len(l) > 0 && string(l[len(l)-1].id[:]) >= string(r.id[:]) {
			p.bad = true
		}
		l = append(l, r)
	}
	return l, !p.bad && len(p.left) == 0
}

// plainHead tells the records, or the first of the errors that Ids and Needs have, too.
func plainHead(b []byte) ([]plainRecord, api.Errno) {
	if len(b) > 1<<20 {
		return nil, api.ErrPackLong
	}
	if len(b) < 32 {
		return nil, api.ErrPackSum
	}
	body := b[:len(b)-32]
	if sum := sha256.Sum256(body); !bytes.Equal(sum[:], b[len(b)-32:]) {
		return nil, api.ErrPackSum
	}
	l, ok := plainRead(body)
	if !ok {
		return nil, api.ErrPackForm
	}
	var all uint64
	for _, r := range l {
		all += r.size
	}
	if len(l) > 1024 || all > 1<<22 {
		return nil, api.ErrPackMany
	}
	return l, api.OK
}

// plainDepth counts by the words of 'The depth'; 9 stands for all that is deeper.
func plainDepth(l []plainRecord, r plainRecord, met int) int {
	if r.form == 1 || met > 8 {
		return met
	}
	for _, x := range l {
		if x.id == r.base {
			return plainDepth(l, x, met+1)
		}
	}
	return met + 1
}

// plainOpen opens a record, and its bases as often as it meets them.
func plainOpen(l []plainRecord, given map[api.ID][]byte, r plainRecord) ([]byte, bool) {
	if r.form == 1 {
		enc, e := press.Unpress(r.data, int(r.size))
		return enc, e == api.OK && plainFits(enc, r)
	}
	base := given[r.base]
	for _, x := range l {
		if x.id != r.base {
			continue
		}
		text, ok := plainOpen(l, given, x)
		if !ok {
			return nil, false
		}
		base = text
	}
	d, e := press.Unpress(r.data, 65536)
	if e != api.OK {
		return nil, false
	}
	enc, e := delta.Apply(base, d)
	return enc, e == api.OK && plainFits(enc, r)
}

func plainFits(enc []byte, r plainRecord) bool {
	return uint64(len(enc)) == r.size && sha256.Sum256(enc) == r.id
}

// plainDecode is Decode by the words of P9.1, one error behind the other.
func plainDecode(b []byte, bases [][]byte) ([][]byte, api.Errno) {
	l, e := plainHead(b)
	if e != api.OK {
		return nil, e
	}
	given := map[api.ID][]byte{}
	for _, enc := range slices.Backward(bases) {
		given[sha256.Sum256(enc)] = enc
	}
	for _, r := range l {
		_, there := given[r.base]
		if r.form == 2 && !there && !slices.ContainsFunc(l, func(x plainRecord) bool { return x.id == r.base }) {
			return nil, api.ErrPackBase
		}
	}
	for _, r := range l {
		if plainDepth(l, r, 0) > 8 {
			return nil, api.ErrPackChain
		}
	}
	var objs [][]byte
	for _, r := range l {
		enc, ok := plainOpen(l, given, r)
		if !ok {
			return nil, api.ErrPackData
		}
		objs = append(objs, enc)
	}
	for _, enc := range objs {
		if _, e := object.Parse(enc); e != api.OK {
			return nil, api.ErrPackObject
		}
	}
	return objs, api.OK
}

func plainIds(b []byte) ([]api.ID, api.Errno) {
	l, e := plainHead(b)
	var ids []api.ID
	for _, r := range l {
		ids = append(ids, r.id)
	}
	return ids, e
}

func plainNeeds(b []byte) ([]api.ID, api.Errno) {
	l, e := plainHead(b)
	ids, _ := plainIds(b)
	var needs []api.ID
	for _, r := range l {
		if r.form == 2 && !slices.Contains(ids, r.base) && !slices.Contains(needs, r.base) {
			needs = append(needs, r.base)
		}
	}
	slices.SortFunc(needs, func(x, y api.ID) int { return bytes.Compare(x[:], y[:]) })
	return needs, e
}

// agree holds the three readers against the model, and tells the error.
func agree(t *testing.T, b []byte, bases [][]byte) api.Errno {
	t.Helper()
	objs, e := Decode(b, bases)
	want, f := plainDecode(b, bases)
	if e != f || !same(objs, want) {
		t.Fatalf("Decode of %x: %d objects, %d, want %d, %d", b, len(objs), e, len(want), f)
	}
	ids, e := Ids(b)
	if want, f := plainIds(b); e != f || !slices.Equal(ids, want) {
		t.Fatalf("Ids of %x: %x, %d, want %x, %d", b, ids, e, want, f)
	}
	needs, e := Needs(b)
	if want, f := plainNeeds(b); e != f || !slices.Equal(needs, want) {
		t.Fatalf("Needs of %x: %x, %d, want %x, %d", b, needs, e, want, f)
	}
	return f
}

func same(a, b [][]byte) bool { return slices.EqualFunc(a, b, bytes.Equal) }

// pool is texts that share much, two of which are no encodings.
func pool() [][]byte {
	l := [][]byte{{7, 1}, {}, {1}, {2, 0}}
	for i := range 8 {
		l = append(l, blob("something that is told again and again "+string(rune('a'+i))))
	}
	return l
}

// drawn is a pack by hand, of records some of which are flawed.
func drawn(r *rand.Rand) []byte {
	texts := pool()
	var l []rec
	for range r.Intn(6) {
		enc := texts[r.Intn(len(texts))]
		x := alone(enc)
		if r.Intn(3) > 0 {
			x = onBase(texts[r.Intn(len(texts))], enc)
		}
		if r.Intn(8) == 0 {
			x = flawed(r, x, texts[r.Intn(len(texts))])
		}
		l = append(l, x)
	}
	body := bodyOf(sortedRecs(l, r.Intn(12) > 0))
	if r.Intn(12) == 0 {
		body = hurt(r, body)
	}
	b := seal(body)
	if r.Intn(40) == 0 {
		b = hurt(r, b)
	}
	if r.Intn(400) == 0 {
		b = append(b, make([]byte, api.MaxPack)...)
	}
	return b
}

func flawed(r *rand.Rand, x rec, other []byte) rec {
	x.data = slices.Clone(x.data)
	switch r.Intn(8) {
	case 0:
		x.id[r.Intn(32)]++
	case 1:
		x.size++
	case 2:
		x.size = max(x.size-1, 0)
	case 3:
		x.data = hurt(r, x.data)
	case 4:
		x.data = plainly(other)
	case 5:
		x.form = byte(r.Intn(4))
	case 6:
		x.base = sha256.Sum256(other)
	case 7:
		x.size = 65536 + r.Intn(2)
	}
	return x
}

// hurt turns a bit, or loses or adds a byte.
func hurt(r *rand.Rand, b []byte) []byte {
	at := r.Intn(len(b))
	switch r.Intn(3) {
	case 0:
		return slices.Delete(slices.Clone(b), at, at+1)
	case 1:
		return slices.Insert(slices.Clone(b), at, byte(r.Intn(256)))
	}
	b = slices.Clone(b)
	b[at] ^= 1 << r.Intn(8)
	return b
}

func TestDrawnPacksAreReadAsTheModelReadsThem(t *testing.T) { // P9.1, P9.2, R5
	r := rand.New(rand.NewSource(9))
	met := map[api.Errno]int{}
	for range 20000 {
		var bases [][]byte
		for _, enc := range pool() {
			if r.Intn(8) > 0 {
				bases = append(bases, enc)
			}
		}
		met[agree(t, drawn(r), bases)]++
	}
	for e := api.ErrPackLong; e <= api.ErrPackObject; e++ {
		// Few records are never too many.
		if met[e] < 10 && e != api.ErrPackMany {
			t.Errorf("error %d came %d times", e, met[e])
		}
	}
	if met[api.OK] < 1000 {
		t.Errorf("only %d were right", met[api.OK])
	}
}

// linked draws records each of which leans on another one, or none, or a base outside; what they hold is right.
func linked(r *rand.Rand, n int) ([]rec, [][]byte) {
	var texts, bases [][]byte
	for i := range n {
		texts = append(texts, blob("text "+string(rune('a'+i))))
	}
	outside := blob("text outside")
	var l []rec
	for i, enc := range texts {
		switch k := r.Intn(10); {
		case k == 0:
			l = append(l, alone(enc))
		case k == 1:
			l = append(l, onBase(outside, enc))
		case k == 2:
			l = append(l, onBase(texts[r.Intn(n)], enc))
		default:
			l = append(l, onBase(texts[max(i-1-r.Intn(2), 0)], enc))
		}
	}
	if l[0].base == l[0].id {
		l[0] = alone(texts[0])
	}
	if r.Intn(20) > 0 {
		bases = append(bases, outside)
	}
	return l, append(bases, texts[r.Intn(n)])
}

func TestDrawnChains(t *testing.T) { // P9.1: the depth, rings, the pack's own record ahead of a base that is handed in
	r := rand.New(rand.NewSource(19))
	met := map[api.Errno]int{}
	for range 4000 {
		l, bases := linked(r, 1+r.Intn(14))
		met[agree(t, lay(l...), bases)]++
	}
	for _, e := range []api.Errno{api.OK, api.ErrPackBase, api.ErrPackChain} {
		if met[e] < 50 {
			t.Errorf("error %d came %d times", e, met[e])
		}
	}
}

func TestShortBodies(t *testing.T) { // P9.1, P9.2: any byte behind a part of the mark, any two behind the whole of it
	for _, head := range []string{"", "S", "SP", "SPA"} {
		agree(t, seal([]byte(head)), nil)
		for c := range 256 {
			agree(t, seal(append([]byte(head), byte(c))), nil)
		}
	}
	for c := range 256 {
		for d := range 256 {
			agree(t, seal([]byte{'S', 'P', 'A', 'K', byte(c), byte(d)}), nil)
		}
	}
}
