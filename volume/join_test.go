package volume

import (
	"crypto/sha256"
	"math/rand"
	"slices"
	"testing"

	"satchel/api"
)

func TestJoinExamples(t *testing.T) { // P10.3, examples 3 and 5
	hello := []byte("hello world")
	l := mustSplit(t, hello, 3, 2)
	other := mustSplit(t, []byte("another one"), 3, 0)
	mustJoin(t, "4, 0, 3", [][]byte{l[4], l[0], l[3]}, hello)
	mustJoin(t, "another file's, 0, 1, 2", [][]byte{other[1], l[0], l[1], l[2]}, hello)
	refused(t, "4, 0", [][]byte{l[4], l[0]}, api.ErrVolumeFew)
	refused(t, "4, 4, 4, 0", [][]byte{l[4], l[4], l[4], l[0]}, api.ErrVolumeFew)
	refused(t, "none", nil, api.ErrVolumeForm)
	refused(t, "no list", [][]byte{}, api.ErrVolumeForm)
	refused(t, "x", [][]byte{[]byte("x")}, api.ErrVolumeForm)
	refused(t, "nil", [][]byte{nil, nil}, api.ErrVolumeForm)
	for _, vol := range mustSplit(t, nil, 1, 1) {
		mustJoin(t, "nothing", [][]byte{vol}, nil)
	}
}

func TestJoinTwoFiles(t *testing.T) { // P10.3: the heads in the order in which each comes first
	a := mustSplit(t, []byte("first file"), 2, 2)
	b := mustSplit(t, []byte("second file"), 3, 1)
	first, second := []byte("first file"), []byte("second file")
	mustJoin(t, "a then b", slices.Concat(a, b), first)
	mustJoin(t, "b then a", slices.Concat(b, a), second)
	mustJoin(t, "a, then b whole, then a", slices.Concat(a[:1], b, a[1:]), first)
	mustJoin(t, "b, then a whole, then b", slices.Concat(b[3:], a, b[:2]), second)
	mustJoin(t, "one by one, a first", [][]byte{a[3], b[0], b[1], b[2], a[2]}, first)
	mustJoin(t, "one by one, b first", [][]byte{b[3], a[0], a[1], b[2], b[1]}, second)
	mustJoin(t, "too few of a", [][]byte{a[3], b[0], b[1], a[3], b[2], b[3]}, second)
	mustJoin(t, "too few of b", [][]byte{b[3], b[0], a[2], b[0], a[1], b[3]}, first)
	refused(t, "too few of both", [][]byte{a[0], b[0], b[1]}, api.ErrVolumeFew)
}

func TestJoinFirstOfAnIndex(t *testing.T) { // P10.3
	file := []byte("hello world")
	sum := sha256.Sum256(file)
	l := mustSplit(t, file, 3, 2)
	bad := make([][]byte, 5)
	for i := range bad {
		bad[i] = forged(3, 2, byte(i), 11, sum, []byte("xxxx"))
	}
	for i := range l {
		behind := slices.Concat(l, bad[i:i+1])
		mustJoin(t, "a forged one behind", behind, file)
		mustJoin(t, "a forged one right behind", slices.Insert(slices.Clone(l), i+1, bad[i]), file)
		ahead := slices.Concat(bad[i:i+1], l)
		if i < 3 { // it is among the three with the least indices
			refused(t, "a forged one ahead", ahead, api.ErrVolumeSum)
		} else {
			mustJoin(t, "a forged one ahead", ahead, file)
		}
	}
	// The forged one of index 3 counts as soon as one of the first three is lost, whatever the others would give.
	refused(t, "3 forged, 1 lost", [][]byte{bad[3], l[3], l[4], l[0], l[2]}, api.ErrVolumeSum)
	mustJoin(t, "4 forged, 1 lost", [][]byte{bad[4], l[4], l[3], l[0], l[2]}, file)
	refused(t, "4 forged, 0 and 1 lost", [][]byte{l[2], bad[4], l[4], l[3]}, api.ErrVolumeSum)
	mustJoin(t, "4 forged behind, 0 and 1 lost", [][]byte{l[2], l[4], bad[4], l[3]}, file)
}

func TestJoinErrors(t *testing.T) { // P10.3, R4: a head that had enough is told, wherever it comes
	sum := sha256.Sum256([]byte("abcd"))
	wrong := [][]byte{forged(2, 0, 0, 4, sum, []byte("ab")), forged(2, 0, 1, 4, sum, []byte("ce"))}
	few := mustSplit(t, []byte("some file"), 3, 0)[:2]
	right := mustSplit(t, []byte("right"), 2, 1)
	junk := [][]byte{nil, []byte("VOLUME01"), noise(1, 85)}
	refused(t, "wrong", wrong, api.ErrVolumeSum)
	refused(t, "wrong, few", slices.Concat(wrong, few), api.ErrVolumeSum)
	refused(t, "few, wrong", slices.Concat(few, junk, wrong), api.ErrVolumeSum)
	refused(t, "few", slices.Concat(junk, few), api.ErrVolumeFew)
	refused(t, "half of wrong", slices.Concat(wrong[:1], few), api.ErrVolumeFew)
	refused(t, "junk", junk, api.ErrVolumeForm)
	mustJoin(t, "wrong, right", slices.Concat(wrong, right), []byte("right"))
	mustJoin(t, "few, wrong, right", slices.Concat(few, wrong, junk, right[1:]), []byte("right"))
	mustJoin(t, "right, wrong", slices.Concat(right, wrong), []byte("right"))
}

func TestJoinCuts(t *testing.T) { // P10.3: what is filled up behind the file's end is not looked at
	sum := sha256.Sum256([]byte("abc"))
	first := forged(2, 1, 0, 3, sum, []byte("ab"))
	mustJoin(t, "filled up otherwise", [][]byte{first, forged(2, 1, 1, 3, sum, []byte("cx"))}, []byte("abc"))
	refused(t, "another byte of the file", [][]byte{first, forged(2, 1, 1, 3, sum, []byte("x\x00"))}, api.ErrVolumeSum)
	empty := sha256.Sum256(nil)
	mustJoin(t, "of nothing", [][]byte{forged(1, 0, 0, 0, empty, nil)}, nil)
	refused(t, "of nothing, another digest", [][]byte{forged(1, 0, 0, 0, sum, nil)}, api.ErrVolumeSum)
}

func TestJoinHeads(t *testing.T) { // P10.3: heads that differ in one part alone do not belong together
	file := []byte("abc\x00")
	sum := sha256.Sum256(file)
	flipped := sum
	flipped[31] ^= 1
	a := forged(2, 2, 0, 4, sum, []byte("ab"))
	mate := forged(2, 2, 1, 4, sum, []byte("c\x00"))
	mustJoin(t, "together", [][]byte{a, mate}, file)
	for name, b := range map[string][]byte{
		"the data volumes":        forged(3, 2, 1, 4, sum, []byte("c\x00")),
		"the parity volumes":      forged(2, 1, 1, 4, sum, []byte("c\x00")),
		"the length":              forged(2, 2, 1, 3, sum, []byte("c\x00")),
		"the digest":              forged(2, 2, 1, 4, flipped, []byte("c\x00")),
		"the digest's first byte": forged(2, 2, 1, 4, [32]byte(slices.Concat([]byte{sum[0] ^ 0x80}, sum[1:])), []byte("c\x00")),
	} {
		refused(t, name, [][]byte{a, b}, api.ErrVolumeFew)
		refused(t, name+", turned", [][]byte{b, a}, api.ErrVolumeFew)
		mustJoin(t, name+", and a mate", [][]byte{b, a, mate}, file)
		mustJoin(t, name+", and a mate behind", [][]byte{a, b, b, mate, b}, file)
	}
}

func TestJoinFileCutTwice(t *testing.T) { // P10.3, P10.4: one file in two shapes
	file := noise(9, 50)
	a, b := mustSplit(t, file, 4, 2), mustSplit(t, file, 4, 3)
	refused(t, "three of each", slices.Concat(a[:3], b[3:6]), api.ErrVolumeFew)
	mustJoin(t, "four of one", slices.Concat(a[:3], b[2:6]), file)
}

// world draws texts of all kinds: right volumes of few small files, forged ones, hurt ones, junk.
func world(rnd *rand.Rand) [][]byte {
	var out [][]byte
	for range 1 + rnd.Intn(3) {
		n, m := 1+rnd.Intn(4), rnd.Intn(3)
		file := noise(rnd.Int63n(4), rnd.Intn(8))
		vols := plainSplit(file, n, m)
		for range rnd.Intn(n + m + 3) {
			out = append(out, vols[rnd.Intn(n+m)])
		}
		for range rnd.Intn(2) { // a piece that fits no file, or another head
			k := int(plainPiece(uint64(len(file)), n))
			out = append(out, forged(byte(n), byte(m+rnd.Intn(2)), byte(rnd.Intn(n+m)), uint64(len(file)), sha256.Sum256(file), noise(rnd.Int63n(3), k)))
		}
		if rnd.Intn(3) == 0 {
			out = append(out, damaged(rnd, vols)...)
		}
		if rnd.Intn(4) == 0 {
			out = append(out, nil, noise(rnd.Int63(), rnd.Intn(90)))
		}
	}
	rnd.Shuffle(len(out), func(i, j int) { out[i], out[j] = out[j], out[i] })
	return out
}

func TestJoinAsModel(t *testing.T) { // P10.3
	rnd := rand.New(rand.NewSource(10))
	met := map[api.Errno]int{}
	for range 20000 {
		vols := world(rnd)
		file, want := plainJoin(vols)
		b, e := Join(vols)
		if e != want || string(b) != file {
			t.Fatalf("%x: %x, %d, not %x, %d", vols, b, e, file, want)
		}
		met[e]++
	}
	for _, e := range []api.Errno{api.OK, api.ErrVolumeForm, api.ErrVolumeFew, api.ErrVolumeSum} {
		if met[e] < 100 {
			t.Errorf("%d was met %d times", e, met[e])
		}
	}
}

func TestJoinOfManyHeads(t *testing.T) { // P10.3, R1: each head is found again
	var vols [][]byte
	const heads = 20000
	for i := range heads {
		file := []byte{byte(i), byte(i >> 8)}
		vols = append(vols, forged(2, 0, 0, 2, sha256.Sum256(file), file[:1]))
	}
	refused(t, "one of each", vols, api.ErrVolumeFew)
	for _, i := range []int{0, 1, heads / 2, heads - 1} {
		file := []byte{byte(i), byte(i >> 8)}
		mustJoin(t, "one of each, and a mate", append(vols[:heads:heads], forged(2, 0, 1, 2, sha256.Sum256(file), file[1:])), file)
	}
}
