package volume

import (
	"bytes"
	"encoding/binary"
	"math"
	"math/rand"
	"slices"
	"testing"

	"satchel/api"
)

// infoAsModel holds Info against the model, and tells whether the text is a volume; Join must think the same of it.
func infoAsModel(t *testing.T, name string, text []byte) bool {
	t.Helper()
	v, ok := plainRead(text)
	want, wantE := api.VolumeInfo{}, api.ErrVolumeForm
	if ok {
		want, wantE = api.VolumeInfo{File: v.file, Size: int(v.size), Data: v.n, Parity: v.m, Number: v.index}, api.OK
	}
	if got, e := Info(text); got != want || e != wantE {
		t.Fatalf("%s: %v, %d, not %v, %d", name, got, e, want, wantE)
	}
	if _, e := Join([][]byte{text}); (e == api.ErrVolumeForm) == ok {
		t.Fatalf("%s: Join answers %d", name, e)
	}
	return ok
}

// mustBeNone wants that the text is no volume.
func mustBeNone(t *testing.T, name string, text []byte) {
	t.Helper()
	if infoAsModel(t, name, text) {
		t.Fatalf("%s: a volume", name)
	}
}

// mustBeOne wants that it is one.
func mustBeOne(t *testing.T, name string, text []byte) {
	t.Helper()
	if !infoAsModel(t, name, text) {
		t.Fatalf("%s: no volume", name)
	}
}

func TestInfo(t *testing.T) { // P10.2
	for _, c := range [][3]int{{11, 3, 2}, {0, 1, 1}, {1, 64, 0}, {5, 1, 63}, {500, 32, 32}, {api.MaxFile, 2, 1}} {
		file := noise(1, c[0])
		for i, vol := range mustSplit(t, file, c[1], c[2]) {
			mustBeOne(t, "a volume", vol)
			if got, _ := Info(vol); got.Size != c[0] || got.Data != c[1] || got.Parity != c[2] || got.Number != i {
				t.Errorf("volume %d of %v: %v", i, c, got)
			}
		}
	}
}

func TestInfoOfHurtVolumes(t *testing.T) { // P10.2, R5
	for _, vol := range [][]byte{mustSplit(t, []byte("hello world"), 3, 2)[4], mustSplit(t, nil, 1, 0)[0], mustSplit(t, noise(2, 300), 2, 0)[1]} {
		for end := range vol {
			mustBeNone(t, "cut", vol[:end])
			mustBeNone(t, "cut in front", vol[end+1:])
			mustBeNone(t, "a byte lost", slices.Delete(slices.Clone(vol), end, end+1))
			mustBeNone(t, "a byte more", slices.Insert(slices.Clone(vol), end, 0))
			for bit := range 8 {
				bad := slices.Clone(vol)
				bad[end] ^= 1 << bit
				mustBeNone(t, "a bit turned", bad)
			}
		}
		mustBeNone(t, "a byte behind", append(slices.Clone(vol), 0))
		mustBeNone(t, "twice", slices.Concat(vol, vol))
		mustBeOne(t, "the volume", vol)
	}
}

func TestInfoOfResealedVolumes(t *testing.T) { // P10.2, R5: the same under a right digest
	right := 0
	for _, vol := range [][]byte{mustSplit(t, []byte("hello world"), 3, 2)[4], mustSplit(t, nil, 1, 0)[0], mustSplit(t, noise(2, 300), 2, 0)[1]} {
		text := vol[:len(vol)-32]
		for at := range text {
			mustBeNone(t, "cut", reseal(text[:at]))
			infoAsModel(t, "a byte lost", reseal(slices.Delete(slices.Clone(text), at, at+1)))
			infoAsModel(t, "a byte more", reseal(slices.Insert(slices.Clone(text), at, 0)))
			for value := range 256 {
				bad := slices.Clone(text)
				bad[at] = byte(value)
				if infoAsModel(t, "a byte changed", reseal(bad)) && bad[at] != text[at] {
					right++
				}
			}
		}
		mustBeNone(t, "a byte behind", reseal(append(slices.Clone(text), 0)))
	}
	if right < 1000 {
		t.Errorf("%d changed volumes are right", right)
	}
}

func TestInfoOfForgedNumbers(t *testing.T) { // P10.2: n, m and the index, each with a piece that has the length for it
	for n := range 256 {
		for _, m := range []int{0, 1, 31, 32, 62, 63, 64, 65, 128, 192, 254, 255, max(0, 63-n), max(0, 64-n), max(0, 65-n), 256 - max(n, 1)} {
			for _, i := range []int{0, 1, n - 1, n, n + m - 1, n + m, n + m + 1, 63, 64, 255} {
				if i < 0 || i > 255 {
					continue
				}
				k := plainPiece(100, max(n, 1))
				got := infoAsModel(t, "forged", forged(byte(n), byte(m), byte(i), 100, [32]byte{7}, make([]byte, k)))
				if want := n >= 1 && n+m <= 64 && i < n+m; got != want {
					t.Fatalf("n %d, m %d, index %d: a volume: %v", n, m, i, got)
				}
			}
		}
	}
}

func TestInfoOfForgedLengths(t *testing.T) { // P10.2, R6
	for _, n := range []byte{1, 2, 3, 7, 64} {
		for _, size := range []uint64{0, 1, 2, 3, 6, 7, 8, 63, 64, 65, 127, 128, 129, 255, 256, 257} {
			k := int(plainPiece(size, int(n)))
			mustBeOne(t, "just as long", forged(n, 0, 0, size, [32]byte{}, make([]byte, k)))
			mustBeNone(t, "a byte longer", forged(n, 0, 0, size, [32]byte{}, make([]byte, k+1)))
			if k > 0 {
				mustBeNone(t, "a byte shorter", forged(n, 0, 0, size, [32]byte{}, make([]byte, k-1)))
			}
		}
	}
	for _, n := range []byte{1, 3, 64} {
		long := make([]byte, plainPiece(api.MaxFile+1, int(n)))
		mustBeOne(t, "MaxFile", forged(n, 0, 0, api.MaxFile, [32]byte{}, long[:plainPiece(api.MaxFile, int(n))]))
		mustBeNone(t, "one more than MaxFile", forged(n, 0, 0, api.MaxFile+1, [32]byte{}, long))
		mustBeNone(t, "the piece one more", forged(n, 0, 0, api.MaxFile, [32]byte{}, make([]byte, plainPiece(api.MaxFile, int(n))+1)))
	}
	// Lengths near the ends of the numbers, for which a sum might come round to a small piece.
	for n := range 65 {
		for _, size := range []uint64{1 << 31, 1 << 32, 1<<32 + 1, 1 << 62, math.MaxInt64 - 63, math.MaxInt64, 1 << 63, 1<<63 + 1, math.MaxUint64 - 64, math.MaxUint64 - 63, math.MaxUint64 - 1, math.MaxUint64} {
			for k := range 3 {
				mustBeNone(t, "a great length", forged(byte(n), 0, 0, size, [32]byte{}, make([]byte, k)))
			}
		}
	}
	mustBeNone(t, "a long text", make([]byte, api.MaxFile+200))
	mustBeNone(t, "a long piece", forged(1, 0, 0, api.MaxFile+100, [32]byte{}, make([]byte, api.MaxFile+100)))
}

func TestInfoOfForgedForms(t *testing.T) { // P10.2, R5: there is one text for each volume
	front := append([]byte("VOLUME01"), 3, 2, 1)
	front = binary.BigEndian.AppendUint64(front, 11)
	front = append(front, noise(3, 32)...)
	join := func(parts ...string) []byte {
		text := slices.Clone(front)
		for _, p := range parts {
			text = append(text, p...)
		}
		return reseal(text)
	}
	mustBeOne(t, "right", join("\x04", "abcd"))
	for name, text := range map[string][]byte{
		"a length in two bytes":       join("\x84\x00", "abcd"),
		"a length in three bytes":     join("\x84\x80\x00", "abcd"),
		"a length in ten bytes":       join("\x84\x80\x80\x80\x80\x80\x80\x80\x80\x00", "abcd"),
		"a length past 64 bits":       join("\x84\x80\x80\x80\x80\x80\x80\x80\x80\x02", "abcd"),
		"the greatest length":         join("\xff\xff\xff\xff\xff\xff\xff\xff\xff\x01", "abcd"),
		"no length":                   join(),
		"a length without its end":    join("\x84"),
		"a length, no piece":          join("\x04"),
		"a piece too short":           join("\x04", "abc"),
		"a piece with a byte behind":  join("\x04", "abcde"),
		"a shorter length":            join("\x03", "abcd"),
		"a shorter piece":             join("\x03", "abc"),
		"a longer piece":              join("\x05", "abcde"),
		"another digest behind":       reseal(join("\x04", "abcd")),
		"digest of the digest's half": join("\x04", "abcd")[:len(front)+5+16],
	} {
		mustBeNone(t, name, text)
	}
	for _, other := range []string{"VOLUME02", "VOLUME00", "volume01", "VOLUME1\x00", "\x00OLUME01", "SPAK\x01\x00\x00\x00"} {
		text := slices.Concat([]byte(other), front[8:], []byte("\x04abcd"))
		mustBeNone(t, other, reseal(text))
	}
	mustBeNone(t, "no mark", reseal(slices.Concat(front[8:], []byte("\x04abcd"))))
}

func TestInfoOfAnyBytes(t *testing.T) { // P10.2, R1, R5
	rnd := rand.New(rand.NewSource(11))
	mustBeNone(t, "nil", nil)
	for n := range 256 {
		mustBeNone(t, "zeros", make([]byte, n))
		mustBeNone(t, "ff", bytes.Repeat([]byte{0xff}, n))
		for range 20 {
			b := noise(rnd.Int63(), n)
			mustBeNone(t, "noise", b)
			mustBeNone(t, "sealed noise", reseal(b))
			copy(b, "VOLUME01")
			mustBeNone(t, "noise behind a mark", b)
			infoAsModel(t, "sealed noise behind a mark", reseal(b))
		}
	}
	right := 0
	for range 20000 { // few values for each number, so that some are right
		n, m, i := byte(rnd.Intn(4)), byte(rnd.Intn(4)*21), byte(rnd.Intn(5))
		size := uint64(rnd.Intn(6))
		if infoAsModel(t, "drawn", forged(n, m, i, size, [32]byte(noise(1, 32)), noise(rnd.Int63(), rnd.Intn(5)))) {
			right++
		}
	}
	if right < 1000 {
		t.Errorf("%d drawn volumes are right", right)
	}
}
