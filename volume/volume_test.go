package volume

import (
	"bytes"
	"crypto/sha256"
	"math"
	"math/rand"
	"slices"
	"testing"

	"satchel/api"
)

// mustSplit tells the volumes of a file that may be cut so.
func mustSplit(t *testing.T, file []byte, n, m int) [][]byte {
	t.Helper()
	vols, e := Split(file, n, m)
	if e != api.OK || len(vols) != n+m {
		t.Fatalf("Split of %d bytes, %d, %d: %d volumes, %d", len(file), n, m, len(vols), e)
	}
	return vols
}

// splitAsModel holds Split against the model.
func splitAsModel(t *testing.T, file []byte, n, m int) [][]byte {
	t.Helper()
	vols := mustSplit(t, file, n, m)
	for i, want := range plainSplit(file, n, m) {
		if !bytes.Equal(vols[i], want) {
			t.Fatalf("Split of %d bytes, %d, %d: volume %d is %x, not %x", len(file), n, m, i, vols[i], want)
		}
	}
	return vols
}

// mustJoin wants the file back.
func mustJoin(t *testing.T, name string, vols [][]byte, file []byte) {
	t.Helper()
	if b, e := Join(vols); e != api.OK || !bytes.Equal(b, file) {
		t.Fatalf("%s: %d bytes of %d, %d", name, len(b), len(file), e)
	}
}

// refused wants an error and nothing beside it.
func refused(t *testing.T, name string, vols [][]byte, want api.Errno) {
	t.Helper()
	if b, e := Join(vols); e != want || len(b) != 0 {
		t.Fatalf("%s: %d bytes, %d, not %d", name, len(b), e, want)
	}
}

func TestField(t *testing.T) { // 'The numbers behind it'
	f := filled()
	for a := range 256 {
		for b := range 256 {
			if got, want := f.times(byte(a), byte(b)), plainTimes(byte(a), byte(b)); got != want {
				t.Fatalf("%x * %x is %x, not %x", a, b, got, want)
			}
		}
		if a > 0 && f.times(byte(a), f.inverse(byte(a))) != 1 {
			t.Errorf("the inverse of %x is %x", a, f.inverse(byte(a)))
		}
	}
}

func TestSplitExamples(t *testing.T) { // P10.1, examples 1 to 3
	for _, c := range []struct {
		file   string
		n, m   int
		pieces []string
	}{
		{"ab", 2, 1, []string{"a", "b", "\x67"}},
		{"abc", 2, 0, []string{"ab", "c\x00"}},
		{"", 1, 1, []string{"", ""}},
		{"", 3, 2, []string{"", "", "", "", ""}},
		{"x", 1, 2, []string{"x", "x", "x"}},
		{"x", 3, 0, []string{"x", "\x00", "\x00"}},
		{"abcde", 4, 0, []string{"ab", "cd", "e\x00", "\x00\x00"}},
		{"\x01\x00", 2, 4, []string{"\x01", "\x00", "\x03", "\x02", "\x05", "\x04"}},
	} {
		vols := splitAsModel(t, []byte(c.file), c.n, c.m)
		for i, piece := range c.pieces {
			want := forged(byte(c.n), byte(c.m), byte(i), uint64(len(c.file)), sha256.Sum256([]byte(c.file)), []byte(piece))
			if !bytes.Equal(vols[i], want) {
				t.Errorf("%q, %d, %d: volume %d is %x, not %x", c.file, c.n, c.m, i, vols[i], want)
			}
			if len(vols[i]) != 84+len(piece) {
				t.Errorf("%q, %d, %d: volume %d has %d bytes", c.file, c.n, c.m, i, len(vols[i]))
			}
		}
	}
	if vols := mustSplit(t, nil, 1, 1); !bytes.Equal(vols[1], plainSplit([]byte{}, 1, 1)[1]) { // R3
		t.Error("nil is no empty file")
	}
}

func TestSplitRefuses(t *testing.T) { // P10.1, example 4, R4, R6
	long := make([]byte, api.MaxFile+1)
	numbers := []int{math.MinInt, math.MinInt + 1, -65, -64, -2, -1, 0, 1, 2, 4, 5, 32, 59, 60, 62, 63, 64, 65, 128, 255, 256, 257, 1 << 32, math.MaxInt - 64, math.MaxInt - 1, math.MaxInt}
	for _, n := range numbers {
		for _, m := range numbers {
			right := n >= 1 && m >= 0 && n <= 64 && m <= 64 && n+m <= 64
			vols, e := Split([]byte("x"), n, m)
			if right && (e != api.OK || len(vols) != n+m) || !right && (e != api.ErrVolumeShape || len(vols) != 0) {
				t.Errorf("Split(x, %d, %d): %d volumes, %d", n, m, len(vols), e)
			}
			vols, e = Split(long, n, m)
			if want := map[bool]api.Errno{true: api.ErrVolumeLong, false: api.ErrVolumeShape}[right]; e != want || len(vols) != 0 {
				t.Errorf("Split of %d bytes, %d, %d: %d volumes, %d, not %d", len(long), n, m, len(vols), e, want)
			}
		}
	}
}

func TestSplitOfEveryShape(t *testing.T) { // P10.1
	for n := 1; n <= 64; n++ {
		for m := 0; n+m <= 64; m++ {
			if n > 12 && m > 3 && n+m < 63 { // the model takes its time
				continue
			}
			splitAsModel(t, noise(int64(n*64+m), n+n/2), n, m)
		}
	}
}

func TestSplitOfEveryLength(t *testing.T) { // P10.1
	for length := range 70 {
		for _, n := range []int{1, 2, 3, 4, 5, 7, 8, 16} {
			splitAsModel(t, noise(int64(length), length), n, 3)
		}
	}
	for _, length := range []int{0, 1, 2, 61, 62, 63, 64, 65, 126, 127, 128, 129} {
		splitAsModel(t, noise(int64(length), length), 64, 0)
		splitAsModel(t, noise(int64(length), length), 62, 2)
	}
	for _, piece := range []int{126, 127, 128, 129, 16383, 16384} { // the piece's length takes one byte, two, three
		splitAsModel(t, noise(int64(piece), piece), 1, 1)
		splitAsModel(t, noise(int64(piece), 3*piece-1), 3, 2)
	}
}

func TestLongestFile(t *testing.T) { // P10.1, P10.4
	file := noise(1, api.MaxFile)
	for _, c := range [][2]int{{1, 0}, {1, 2}, {3, 2}, {5, 5}, {32, 32}, {64, 0}} {
		n, m := c[0], c[1]
		vols := mustSplit(t, file, n, m)
		k := int(plainPiece(api.MaxFile, n))
		for i := range n { // the first n hold the file itself
			piece := make([]byte, k)
			copy(piece, file[min(i*k, len(file)):])
			if !bytes.Equal(vols[i], forged(byte(n), byte(m), byte(i), api.MaxFile, sha256.Sum256(file), piece)) {
				t.Errorf("%d, %d: volume %d is another one", n, m, i)
			}
		}
		mustJoin(t, "the first", vols[:n], file)
		mustJoin(t, "the last", vols[m:], file)
	}
	if vols, e := Split(append(file, 0), 3, 2); e != api.ErrVolumeLong || len(vols) != 0 {
		t.Errorf("a byte more: %d volumes, %d", len(vols), e)
	}
}

// pieceOf tells a volume's piece, as the model reads it.
func pieceOf(t *testing.T, text []byte) []byte {
	t.Helper()
	v, ok := plainRead(text)
	if !ok {
		t.Fatalf("no volume: %x", text)
	}
	return []byte(v.piece)
}

func TestLinear(t *testing.T) { // P10.5
	rnd := rand.New(rand.NewSource(5))
	for range 200 {
		n := 1 + rnd.Intn(20)
		m := rnd.Intn(20)
		a := noise(rnd.Int63(), rnd.Intn(150))
		b := noise(rnd.Int63(), len(a))
		both := make([]byte, len(a))
		for i := range both {
			both[i] = a[i] ^ b[i]
		}
		volsA, volsB := mustSplit(t, a, n, m), mustSplit(t, b, n, m)
		for i, vol := range mustSplit(t, both, n, m) {
			want := pieceOf(t, volsA[i])
			for j, c := range pieceOf(t, volsB[i]) {
				want[j] ^= c
			}
			if got := pieceOf(t, vol); !bytes.Equal(got, want) {
				t.Fatalf("%d bytes, %d, %d: piece %d is %x, not %x", len(a), n, m, i, got, want)
			}
		}
	}
}

func TestEveryChoice(t *testing.T) { // P10.4
	rnd := rand.New(rand.NewSource(6))
	for _, c := range [][3]int{{1, 0, 5}, {1, 1, 0}, {1, 5, 9}, {2, 1, 2}, {2, 4, 3}, {3, 3, 37}, {4, 4, 2}, {4, 4, 16}, {5, 3, 0}, {5, 5, 23}, {7, 1, 50}, {8, 2, 3}, {10, 0, 33}} {
		n, m := c[0], c[1]
		file := noise(int64(n*m), c[2])
		vols := mustSplit(t, file, n, m)
		for set := range 1 << (n + m) {
			var some [][]byte
			for i, vol := range vols {
				if set>>i&1 == 1 {
					some = append(some, vol)
				}
			}
			enough := len(some) >= n
			for range rnd.Intn(3) {
				if len(some) > 0 { // some come twice
					some = append(some, some[rnd.Intn(len(some))])
				}
			}
			rnd.Shuffle(len(some), func(i, j int) { some[i], some[j] = some[j], some[i] })
			switch {
			case enough:
				mustJoin(t, "a choice", some, file)
			case len(some) == 0:
				refused(t, "nothing", some, api.ErrVolumeForm)
			default:
				refused(t, "too few", some, api.ErrVolumeFew)
			}
		}
	}
}

func TestDrawnChoices(t *testing.T) { // P10.4: among other texts, and volumes of files that come behind, or are too few
	rnd := rand.New(rand.NewSource(7))
	for range 600 {
		n := 1 + rnd.Intn(64)
		m := rnd.Intn(65 - n)
		file := noise(rnd.Int63(), rnd.Intn(300))
		vols := mustSplit(t, file, n, m)
		var some [][]byte
		for _, i := range rnd.Perm(n + m)[:n+rnd.Intn(m+1)] {
			some = append(some, vols[i])
		}
		for range rnd.Intn(4) {
			some = append(some, vols[rnd.Intn(n+m)])
		}
		some = slices.Concat(some, damaged(rnd, vols), [][]byte{nil, {}, []byte("x"), noise(rnd.Int63(), 90)})
		few := mustSplit(t, noise(rnd.Int63(), len(file)), 3, 2)
		some = append(some, few[rnd.Intn(5)], few[rnd.Intn(5)])
		rnd.Shuffle(len(some), func(i, j int) { some[i], some[j] = some[j], some[i] })
		behind := mustSplit(t, noise(rnd.Int63(), len(file)), 2, 1)
		mustJoin(t, "a drawn choice", append(some, behind...), file)
	}
}

// damaged tells volumes in which some bytes differ.
func damaged(rnd *rand.Rand, vols [][]byte) [][]byte {
	var out [][]byte
	for _, vol := range vols {
		bad := slices.Clone(vol)
		for range 1 + rnd.Intn(3) {
			bad[rnd.Intn(len(bad))] ^= byte(1 + rnd.Intn(255))
		}
		if !bytes.Equal(bad, vol) && rnd.Intn(2) == 0 {
			out = append(out, bad)
		}
	}
	return out
}
