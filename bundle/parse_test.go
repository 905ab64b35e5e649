package bundle

import (
	"bytes"
	"crypto/sha256"
	"encoding/binary"
	"fmt"
	"slices"
	"strings"
	"testing"

	"satchel/api"
	"satchel/store"
)

// full is a bundle with something in each place; its pack is none.
func full() api.Bundle {
	return api.Bundle{
		Head: api.Header{From: "home", To: "a-9_z.", Seq: 300, Basis: []api.ID{{}, all(1), all(2)}, Stamps: []api.Stamp{
			{Name: "heads/main", ID: all(3), Seq: 300}, {Name: "heads/z", Seq: 1}, {Name: "tags/é", ID: all(1), Seq: 256},
		}},
		Pack: []byte("whatever"),
	}
}

func TestParse(t *testing.T) { // P15.1: the header and the pack, as they stand there
	for i, x := range []api.Bundle{
		full(),
		{Head: plain},
		{Head: stamped("a"), Pack: []byte{0}},
		{Head: api.Header{From: "a", To: "a", Seq: api.MaxSeq, Basis: []api.ID{all(255)}}, Pack: packOf([]byte{1})},
		{Head: plain, Pack: make([]byte, api.MaxPack+1)}, // pack would refuse it
		{Head: plain, Pack: make([]byte, 127)},
		{Head: plain, Pack: make([]byte, 128)},
	} {
		for _, key := range [][]byte{nil, []byte("k"), bytes.Repeat([]byte("key"), 50)} {
			got, err := Parse(lay(x.Head, x.Pack, key), key)
			answers(t, fmt.Sprint("bundle ", i), err, api.OK)
			if !sameBundle(got, x) {
				t.Errorf("bundle %d: %.200v, want %.200v", i, got, x)
			}
		}
	}
}

func TestParseLong(t *testing.T) { // P15.1: ErrBundleLong
	around := len(lay(plain, make([]byte, api.MaxPack), nil)) - api.MaxPack
	most := make([]byte, api.MaxBundle-around)
	parses(t, "MaxBundle", lay(plain, most, []byte("k")), api.OK)
	parses(t, "one byte more", lay(plain, append(most, 0), []byte("k")), api.ErrBundleLong)
	parses(t, "zeros", make([]byte, api.MaxBundle+1), api.ErrBundleLong)
	parses(t, "as many zeros as may be", make([]byte, api.MaxBundle), api.ErrBundleSeal)
}

func TestParseSeal(t *testing.T) { // P15.1, P15.5: ErrBundleSeal
	key := []byte("k")
	b := lay(full().Head, full().Pack, key)
	parses(t, "nothing", nil, api.ErrBundleSeal)
	for n := range b {
		parses(t, fmt.Sprint("the first ", n), b[:n], api.ErrBundleSeal)
		parses(t, fmt.Sprint("the last ", n), b[len(b)-n:], api.ErrBundleSeal)
		parses(t, fmt.Sprint("without byte ", n), slices.Delete(slices.Clone(b), n, n+1), api.ErrBundleSeal)
		for _, c := range []byte{0, 1, 0x80, 0xff, b[n]} {
			parses(t, fmt.Sprint("a byte more at ", n), slices.Insert(slices.Clone(b), n, c), api.ErrBundleSeal)
		}
		for bit := range 8 {
			turned := slices.Clone(b)
			turned[n] ^= 1 << bit
			parses(t, fmt.Sprintf("bit %d of byte %d turned", bit, n), turned, api.ErrBundleSeal)
		}
	}
	parses(t, "a byte behind", append(slices.Clone(b), 0), api.ErrBundleSeal)
	sum := sha256.Sum256(body(full().Head, nil))
	parses(t, "a digest without a key", slices.Concat(body(full().Head, nil), sum[:]), api.ErrBundleSeal)
}

func TestKeys(t *testing.T) { // P15.1, P15.3, P15.5
	long := bytes.Repeat([]byte("0123456789"), 7)
	digest := sha256.Sum256(long)
	block := bytes.Repeat([]byte("b"), 64)
	keys := [][]byte{nil, {}, {0}, make([]byte, 64), []byte("k"), []byte("k\x00"), append([]byte("k"), make([]byte, 63)...), []byte("kk"), []byte("\x00k"), block, block[:63], append(slices.Clone(block), 0), long, digest[:], append(digest[:], 0, 0), make([]byte, 65), append([]byte("k"), make([]byte, 64)...)}
	// Keys of one group give one seal.
	groups := []int{0, 0, 0, 0, 1, 1, 1, 2, 3, 4, 5, 6, 7, 7, 7, 8, 9}
	for i, key := range keys {
		b, err := Make(store.New(), plain, key, nil, nil)
		answers(t, fmt.Sprint("key ", i), err, api.OK)
		if !bytes.Equal(b, lay(plain, packOf(), key)) {
			t.Errorf("key %d: another seal than the library's", i)
		}
		for j, other := range keys {
			n := api.ErrBundleSeal
			if groups[i] == groups[j] {
				n = api.OK
			}
			_, err := Parse(b, other)
			answers(t, fmt.Sprintf("key %d with key %d", i, j), err, n)
		}
	}
}

func TestParseForm(t *testing.T) { // P15.1: ErrBundleForm, whatever is wrong
	key := []byte("k")
	whole := body(full().Head, full().Pack)
	for n := range whole {
		parses(t, fmt.Sprint("the first ", n), seal(whole[:n], key), api.ErrBundleForm)
	}
	parses(t, "a byte behind the pack", seal(append(slices.Clone(whole), 0), key), api.ErrBundleForm)
	parses(t, "the seal twice", seal(seal(whole, key), key), api.ErrBundleForm)
	for n := range 5 {
		for bit := range 8 {
			turned := slices.Clone(whole)
			turned[n] ^= 1 << bit
			parses(t, "the mark or the version", seal(turned, key), api.ErrBundleForm)
		}
	}
	bare := body(plain, nil) // the mark, 1, 1 a, 1 b, eight bytes, 0, 0, 0
	at := len("SBDL\x01\x01a\x01b") + 8
	if !bytes.Equal(bare[at:], []byte{0, 0, 0}) {
		t.Fatalf("% x", bare)
	}
	for n := range 3 {
		for _, number := range [][]byte{{0x80, 0}, {1}, {2}, {0x80}, {0xff}, {0xff, 0xff, 0xff, 0xff, 0xff, 0xff, 0xff, 0xff, 0xff, 1}, {0xff, 0xff, 0xff, 0xff, 0xff, 0xff, 0xff, 0xff, 0xff, 2}, binary.AppendUvarint(nil, 1<<31), binary.AppendUvarint(nil, 1<<63)} {
			parses(t, fmt.Sprintf("number %d is % x", n, number), seal(slices.Replace(slices.Clone(bare), at+n, at+n+1, number...), key), api.ErrBundleForm)
		}
	}
	for _, at := range []int{5, 7} {
		parses(t, "a length that is not in its shortest form", seal(slices.Replace(slices.Clone(bare), at, at+1, 0x81, 0), key), api.ErrBundleForm)
		parses(t, "a length that is too great", seal(slices.Replace(slices.Clone(bare), at, at+1, 0xff, 0x7f), key), api.ErrBundleForm)
	}
}

func TestBasisRises(t *testing.T) { // P15.1
	up, down := all(2), all(2)
	up[31]++
	down[0]--
	for _, c := range []struct {
		basis []api.ID
		n     api.Errno
	}{
		{[]api.ID{{}, down, all(2), up, all(200)}, api.OK},
		{[]api.ID{all(2), all(2)}, api.ErrBundleForm},
		{[]api.ID{{}, {}}, api.ErrBundleForm},
		{[]api.ID{up, all(2)}, api.ErrBundleForm},
		{[]api.ID{all(2), down}, api.ErrBundleForm},
		{[]api.ID{{}, all(1), all(3), all(2)}, api.ErrBundleForm},
		{[]api.ID{all(1), all(2), {}}, api.ErrBundleForm},
	} {
		h := stamped("a")
		h.Basis = c.basis
		parses(t, fmt.Sprintf("%.4x", c.basis), lay(h, nil, []byte("k")), c.n)
	}
}

// row tells ids that rise.
func row(n int) []api.ID {
	ids := make([]api.ID, n)
	for i := range ids {
		binary.BigEndian.PutUint32(ids[i][:], uint32(i))
	}
	return ids
}

func TestParseMany(t *testing.T) { // P15.1: ErrBundleMany; stamps are counted in TestMakeMany
	for n, e := range map[int]api.Errno{api.MaxBasis: api.OK, api.MaxBasis + 1: api.ErrBundleMany, 30000: api.ErrBundleMany} {
		h := stamped(rows(api.MaxStamps)...)
		h.Basis = row(n)
		parses(t, fmt.Sprint(n, " prerequisites"), lay(h, nil, []byte("k")), e)
	}
}

func TestParseOrder(t *testing.T) { // P15.1, R4: of several errors the one that is named first
	var x api.Bundle
	cut := 0
	key := []byte("k")
	faults := []struct {
		n   api.Errno
		lay func()
	}{
		{api.ErrBundleLong, func() { x.Pack = make([]byte, api.MaxBundle) }},
		{api.ErrBundleSeal, func() { key = []byte("other") }},
		{api.ErrBundleForm, func() { cut = 1 }},
		{api.ErrBundleForm, func() { x.Head.Seq = 0 }},
		{api.ErrBundleForm, func() { x.Head.Stamps[1].Seq = 9 }},
		{api.ErrBundleForm, func() { x.Head.Stamps[1].Name = "A" }},
		{api.ErrBundleForm, func() { x.Head.Basis[1] = api.ID{} }},
		{api.ErrBundleName, func() { x.Head.From = "" }},
		{api.ErrBundleName, func() { x.Head.To = strings.Repeat("a", 65) }},
		{api.ErrBundleName, func() { x.Head.Stamps[0].Name = "A/" }},
		{api.ErrBundleMany, func() { x.Head.Stamps = append(x.Head.Stamps, stamped(rows(511)...).Stamps...) }},
		{api.ErrBundleMany, func() { x.Head.Basis = append(x.Head.Basis, row(258)[2:]...) }},
	}
	for i, first := range faults {
		for j, second := range faults[i:] {
			x = api.Bundle{Head: stamped("A", "B"), Pack: []byte("p")}
			x.Head.Basis = row(2)
			cut, key = 0, []byte("k")
			second.lay()
			if j > 0 {
				first.lay()
			}
			text := body(x.Head, x.Pack)
			parses(t, fmt.Sprintf("fault %d with fault %d", i, i+j), seal(text[:len(text)-cut], key), first.n)
		}
	}
}
