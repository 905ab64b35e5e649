package volume

import (
	"bytes"
	"fmt"
	"runtime"
	"slices"
	"testing"
	"time"

	"satchel/api"
)

func spoil(b []byte) {
	for i := range b[:cap(b)] {
		b[:cap(b)][i] = 'z'
	}
}

const spare = "spare room"

// roomyBytes copies bytes into a list with spare room behind its end.
func roomyBytes(b []byte) []byte {
	return slices.Concat(b, []byte(spare))[: len(b) : len(b)+len(spare)]
}

// untouched tells whether a list still holds what it did, and its spare room too.
func untouched(b, was []byte) bool {
	return bytes.Equal(b, was) && string(b[:cap(b)][len(b):]) == spare
}

func same(a, b [][]byte) bool { return slices.EqualFunc(a, b, bytes.Equal) }

func TestMemoryOfSplit(t *testing.T) { // P10.6, R2
	for _, c := range [][3]int{{40, 3, 3}, {39, 3, 0}, {40, 1, 2}, {0, 2, 2}, {3, 5, 1}} {
		was := noise(1, c[0])
		want := plainSplit(was, c[1], c[2])
		for i := range want {
			file := roomyBytes(was)
			vols := mustSplit(t, file, c[1], c[2])
			again := mustSplit(t, file, c[1], c[2])
			if !untouched(file, was) {
				t.Errorf("%v: Split has changed the file, or its room", c)
			}
			spoil(file)
			if !same(vols, want) {
				t.Errorf("%v: a volume shares the file's memory", c)
			}
			spoil(vols[i])
			for k := range want {
				if k != i && !bytes.Equal(vols[k], want[k]) {
					t.Errorf("%v: writing to volume %d, and its room, changes %d", c, i, k)
				}
			}
			clear(vols[:cap(vols)])
			if !same(again, want) {
				t.Errorf("%v: two answers share memory", c)
			}
		}
	}
}

func TestMemoryOfJoin(t *testing.T) { // P10.6, R2
	for _, c := range [][3]int{{40, 3, 3}, {39, 3, 0}, {40, 1, 2}, {0, 2, 2}, {3, 5, 1}} {
		want := noise(2, c[0])
		was := slices.Concat(plainSplit(want, c[1], c[2])[c[2]:], [][]byte{[]byte("junk")})
		slices.Reverse(was) // so that a list that is sorted where it stands is seen
		vols := make([][]byte, 0, len(was)+1)
		for _, b := range was {
			vols = append(vols, roomyBytes(b))
		}
		vols[:cap(vols)][len(was)] = []byte(spare)
		file, e := Join(vols)
		again, _ := Join(vols)
		info, _ := Info(vols[1])
		for i, b := range vols {
			if !untouched(b, was[i]) {
				t.Errorf("%v: text %d is changed, or its room", c, i)
			}
		}
		if string(vols[:cap(vols)][len(was)]) != spare {
			t.Errorf("%v: the list's room is changed", c)
		}
		for _, b := range vols {
			spoil(b)
		}
		clear(vols[:cap(vols)])
		spoil(again)
		if e != api.OK || !bytes.Equal(file, want) {
			t.Errorf("%v: the file shares memory, or is not given: %d", c, e)
		}
		if wantInfo, _ := Info(was[1]); info != wantInfo {
			t.Errorf("%v: what Info told has changed", c)
		}
	}
}

// taken tells how many bytes of memory a call takes.
func taken(call func()) uint64 {
	var before, after runtime.MemStats
	runtime.ReadMemStats(&before)
	call()
	runtime.ReadMemStats(&after)
	return after.TotalAlloc - before.TotalAlloc
}

func TestMemoryIsBound(t *testing.T) { // R6: what a text says of lengths takes none
	great := forged(1, 63, 0, 1<<63-1, [32]byte{}, nil)
	if n := taken(func() { Info(great) }); n > 1<<16 {
		t.Errorf("Info of %d bytes takes %d", len(great), n)
	}
	long := make([]byte, 1<<24)
	copy(long, great)
	if n := taken(func() { Info(long) }); n > 1<<16 {
		t.Errorf("Info of a text that is too long takes %d", n)
	}
	if n := taken(func() { Split(long, 1, 63) }); n > 1<<16 {
		t.Errorf("Split of a file that is too long takes %d", n)
	}
	if n := taken(func() { Split(nil, 1<<62, 1<<62) }); n > 1<<16 {
		t.Errorf("Split into too many takes %d", n)
	}
	var many [][]byte // each of a head of its own
	size := 0
	for i := range 5000 {
		many = append(many, forged(1, 63, 1, 1, [32]byte{byte(i), byte(i >> 8), 1}, []byte("x")))
		size += len(many[i])
	}
	if n := taken(func() { Join(many) }); n > uint64(60*size) {
		t.Errorf("Join of %d bytes takes %d", size, n)
	}
}

func TestGoroutinesEnd(t *testing.T) { // R8
	before := runtime.NumGoroutine()
	file := noise(3, 5000)
	for range 50 {
		vols := mustSplit(t, file, 20, 20)
		mustJoin(t, "the last", vols[20:], file)
		if n := settled(before); n > before {
			t.Fatalf("%d goroutines, not %d", n, before)
		}
	}
}

// settled tells how many goroutines there are: one that has said that it is done may be about to end.
func settled(want int) int {
	for range 100 {
		if runtime.NumGoroutine() <= want {
			break
		}
		time.Sleep(time.Millisecond)
	}
	return runtime.NumGoroutine()
}

func TestSameOnAnyNumberOfProcessors(t *testing.T) { // R8
	defer runtime.GOMAXPROCS(runtime.GOMAXPROCS(0))
	file := noise(4, 777)
	want := plainSplit(file, 7, 9)
	for _, p := range []int{1, 2, 3, 8} {
		runtime.GOMAXPROCS(p)
		for range 20 {
			if vols := mustSplit(t, file, 7, 9); !same(vols, want) {
				t.Fatal(fmt.Sprint("other volumes on ", p, " processors"))
			}
			mustJoin(t, "the last", want[9:], file)
		}
	}
}
