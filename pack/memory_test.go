package pack

import (
	"bytes"
	"crypto/sha256"
	"fmt"
	"math/rand"
	"runtime"
	"slices"
	"testing"
	"time"

	"satchel/api"
)

func spoil(b []byte) {
	for i := range b[:cap(b)] {
		b[:cap(b)][i] = 'z'
	}
}

const spare = "spare room"

// roomy copies lists into ones with spare room behind their ends.
func roomy(l [][]byte) [][]byte {
	out := make([][]byte, 0, len(l)+2)
	for _, b := range l {
		out = append(out, roomyBytes(b))
	}
	out[:cap(out)][len(out)] = []byte(spare)
	return out
}

func roomyBytes(b []byte) []byte {
	return slices.Concat(b, []byte(spare))[:len(b)]
}

// untouched tells whether lists still hold what they did, and their spare room too.
func untouched(l, was [][]byte) bool {
	for i, b := range l {
		if !bytes.Equal(b, was[i]) || !untouchedRoom(b) {
			return false
		}
	}
	return len(l) == len(was) && string(l[:cap(l)][len(l)]) == spare
}

func untouchedRoom(b []byte) bool {
	return string(b[len(b) : len(b)+len(spare)][:len(spare)]) == spare
}

// mixed is objects and bases, some of which are told by others.
func mixed() (objs, bases [][]byte) {
	for i := range 6 {
		objs = append(objs, blob(string(noise(400, 1))+fmt.Sprint(i)))
		bases = append(bases, blob(string(noise(400, 1))+fmt.Sprint("base", i)))
	}
	return append(objs, []byte{2, 0}), append(bases, []byte{1})
}

func TestMemory(t *testing.T) { // P9.7, R2
	objs, bases := mixed()
	roomyObjs, roomyBases := roomy(objs), roomy(bases)
	b, _ := Encode(roomyObjs, roomyBases)
	if !untouched(roomyObjs, objs) || !untouched(roomyBases, bases) {
		t.Error("Encode has changed what was handed in")
	}
	was := slices.Clone(b)
	again, _ := Encode(roomyObjs, roomyBases)
	for _, l := range [][][]byte{roomyObjs, roomyBases, {again}} {
		for _, x := range l {
			spoil(x)
		}
	}
	if !bytes.Equal(b, was) {
		t.Error("Encode's answer shares memory")
	}

	roomyPack, roomyBases := roomyBytes(was), roomy(bases)
	got, e := Decode(roomyPack, roomyBases)
	if e != api.OK || !untouched(roomyBases, bases) || !bytes.Equal(roomyPack, was) || !untouchedRoom(roomyPack) {
		t.Errorf("Decode has changed what was handed in, or refused it: %d", e)
	}
	second, _ := Decode(roomyPack, roomyBases)
	ids, _ := Ids(roomyPack)
	needs, _ := Needs(roomyPack)
	if len(needs) == 0 {
		t.Error("nothing is needed")
	}
	spoil(roomyPack)
	for _, x := range slices.Concat(roomyBases, second) {
		spoil(x)
	}
	wantNeeds, _ := Needs(was)
	if !same(got, sorted(objs)) || !slices.Equal(ids, idsOf(objs)) || !slices.Equal(needs, wantNeeds) {
		t.Error("an answer shares memory")
	}
}

func TestListsOfOneAnswer(t *testing.T) { // P9.7, R2: no two share memory, nor their spare room
	objs, bases := mixed()
	b, _ := Encode(objs, bases)
	for i := range sorted(objs) {
		got, _ := Decode(b, bases)
		spoil(got[i])
		for k, want := range sorted(objs) {
			if k != i && !bytes.Equal(got[k], want) {
				t.Errorf("writing to list %d changes list %d", i, k)
			}
		}
	}
	ids, _ := Ids(b)
	other, _ := Ids(b)
	clear(other[:cap(other)])
	if !slices.Equal(ids, idsOf(objs)) {
		t.Error("two answers of Ids share memory")
	}
}

// taken tells how many bytes of memory a call takes.
func taken(call func()) uint64 {
	var before, after runtime.MemStats
	runtime.GC()
	runtime.ReadMemStats(&before)
	call()
	runtime.ReadMemStats(&after)
	return after.TotalAlloc - before.TotalAlloc
}

func TestOpenedToNoMoreThanItsSize(t *testing.T) { // P9.6, R6
	zeros := make([]byte, api.MaxObject)
	run := pressed(zeros)
	// A copy of 60000 bytes takes few bytes of a delta.
	long := onBase(zeros[:60000], zeros[:60000])
	for _, x := range []struct {
		name  string
		r     rec
		bases [][]byte
	}{
		{"whole", with(run, func(x *rec) { x.size = 2 }), nil},
		{"delta", with(long, func(x *rec) { x.id, x.size = sha256.Sum256([]byte("other")), 2 }), [][]byte{zeros[:60000]}},
	} {
		b := lay(x.r)
		var e api.Errno
		if n := taken(func() { _, e = Decode(b, x.bases) }); n > 30000 || e != api.ErrPackData {
			t.Errorf("%s: takes %d bytes, %d", x.name, n, e)
		}
	}
}

func TestOpenedOnce(t *testing.T) { // P9.6, R6
	base := append([]byte{1}, make([]byte, api.MaxObject-1)...)
	l := []rec{pressed(base)}
	last := base
	for i := range 7 {
		next := changed(base, 100+i)
		l = append(l, onBase(last, next))
		last = next
	}
	for _, enc := range numbered(1000) {
		d := slices.Concat([]byte{0x80, 0x80, 4, byte(len(enc)), byte(2 * len(enc))}, enc) // new bytes alone
		l = append(l, rec{id: sha256.Sum256(enc), form: 2, base: sha256.Sum256(last), size: len(enc), data: plainly(d)})
	}
	b := lay(l...)
	var e api.Errno
	n := taken(func() { _, e = Decode(b, nil) })
	if e != api.OK || n > 12<<20 {
		t.Errorf("1008 records, nine of which are long: %d bytes, %d", n, e)
	}
}

func TestMemoryByTheBytes(t *testing.T) { // P9.1, R6: not by numbers that they tell
	for _, body := range [][]byte{
		head(1 << 63), head(1<<64 - 1), head(1 << 40), head(1 << 20),
		slices.Concat(head(1), make([]byte, 32), []byte{1, 0}, []byte("\xff\xff\xff\xff\xff\xff\xff\xff\x7f")),
	} {
		b := seal(body)
		var e api.Errno
		if n := taken(func() { _, e = Decode(b, nil) }); n > 20000 || e != api.ErrPackForm {
			t.Errorf("%x: takes %d bytes, %d", body, n, e)
		}
	}
}

// settled waits for goroutines that have done their work and are about to go.
func settled(most int) bool {
	for range 1000 {
		if runtime.NumGoroutine() <= most {
			return true
		}
		time.Sleep(time.Millisecond)
	}
	return false
}

// failing are packs of many records, some of which are wrong.
func failing() [][]byte {
	var packs [][]byte
	for _, wrong := range [][]int{{0}, {199}, {100}, {3, 50, 51, 52, 199}} {
		l := sortedRecs(wholes(numbered(200)), true)
		for _, n := range wrong {
			l[n].size++
		}
		packs = append(packs, lay(l...))
		for i := range l {
			l[i].size++
		}
		packs = append(packs, lay(l...))
	}
	return packs
}

func TestWorkersEnd(t *testing.T) { // P9.7, R8
	before := runtime.NumGoroutine()
	right := lay(wholes(numbered(200))...)
	for range 50 {
		for _, b := range failing() {
			if _, e := Decode(b, nil); e != api.ErrPackData {
				t.Fatalf("a wrong record: %d", e)
			}
		}
		if l, e := Decode(right, nil); e != api.OK || len(l) != 200 {
			t.Fatalf("right records: %d, %d", len(l), e)
		}
	}
	if !settled(before) {
		t.Errorf("%d goroutines, there were %d", runtime.NumGoroutine(), before)
	}
}

func TestTheSameHoweverWorkersRun(t *testing.T) { // P9.7, R8
	r := rand.New(rand.NewSource(8))
	var packs [][]byte
	for range 100 {
		packs = append(packs, drawn(r))
	}
	packs = append(packs, failing()...)
	for faults := range 16 {
		packs = append(packs, faulty(faults<<4))
	}
	defer runtime.GOMAXPROCS(runtime.GOMAXPROCS(0))
	for _, procs := range []int{1, 2, 3, 8} {
		runtime.GOMAXPROCS(procs)
		for _, b := range packs {
			agree(t, b, pool())
		}
	}
}
