package pack

import (
	"bytes"
	"fmt"
	"math/rand"
	"slices"
	"strings"
	"testing"

	"satchel/api"
	"satchel/object"
)

// bound is how long a pack of these objects may be, by P9.3.
func bound(objs [][]byte) int {
	n := 64
	for _, enc := range sorted(objs) {
		n += len(enc) + 96
	}
	return n
}

// there checks that objects come back from their pack, and tells it.
func there(t *testing.T, name string, objs, bases [][]byte) []byte {
	t.Helper()
	b, e := Encode(objs, bases)
	if e != api.OK || len(b) > bound(objs) {
		t.Fatalf("%s: %d bytes of at most %d, %d", name, len(b), bound(objs), e)
	}
	if again, _ := Encode(objs, bases); !bytes.Equal(b, again) {
		t.Errorf("%s: another pack at the second call", name)
	}
	if l, e := Decode(b, bases); e != api.OK || !same(l, sorted(objs)) {
		t.Fatalf("%s: read back: %d objects of %d, %d", name, len(l), len(sorted(objs)), e)
	}
	if ids, e := Ids(b); e != api.OK || !slices.Equal(ids, idsOf(objs)) {
		t.Errorf("%s: %d ids, %d", name, len(ids), e)
	}
	return b
}

// needed are the bases that a pack cannot do without.
func needed(t *testing.T, name string, b []byte, bases [][]byte) [][]byte {
	t.Helper()
	needs, e := Needs(b)
	if e != api.OK {
		t.Errorf("%s: Needs %d", name, e)
	}
	var few [][]byte
	for _, id := range needs {
		at := slices.IndexFunc(bases, func(enc []byte) bool { return object.Id(enc) == id })
		if at < 0 {
			t.Fatalf("%s: %x is needed and no base", name, id)
		}
		few = append(few, bases[at])
	}
	return few
}

func encoded(o api.Object) []byte {
	b, e := object.Encode(o)
	if e != api.OK {
		panic(e)
	}
	return b
}

// family draws objects of all kinds that share much with one another.
func family(r *rand.Rand, n int) [][]byte {
	long := noise(4000, byte(r.Intn(256)))
	var l [][]byte
	for i := range n {
		var id api.ID
		r.Read(id[:])
		switch r.Intn(6) {
		case 0:
			var entries []api.Entry
			for k := range 1 + r.Intn(20) {
				entries = append(entries, api.Entry{Mode: 1, Name: fmt.Sprintf("name%02d", k), ID: api.ID{byte(k)}})
			}
			entries[r.Intn(len(entries))].ID = id
			l = append(l, encoded(api.Object{Kind: api.KindTree, Entries: entries}))
		case 1:
			l = append(l, encoded(api.Object{Kind: api.KindCommit, Commit: api.Commit{Tree: id, Who: "somebody", Time: uint64(i), Text: strings.Repeat("why ", r.Intn(50))}}))
		case 2:
			l = append(l, encoded(api.Object{Kind: api.KindTag, Tag: api.Tag{Target: id, Kind: 3, Name: "name", Text: strings.Repeat("what for ", r.Intn(20))}}))
		case 3:
			l = append(l, blob(strings.Repeat("over and over ", r.Intn(300))+string(long[:r.Intn(60)])))
		default:
			x := blob(string(long[:r.Intn(len(long))]))
			for range r.Intn(4) {
				x[r.Intn(len(x))] ^= 1
			}
			x[0] = 1
			l = append(l, x)
		}
	}
	return l
}

func TestThereAndBack(t *testing.T) { // P9.3, P9.5
	r := rand.New(rand.NewSource(5))
	leaned := 0
	for n := range 80 {
		all := family(r, r.Intn(40))
		cut := r.Intn(len(all) + 1)
		objs, bases := all[:cut:cut], all[cut:]
		if n%3 == 0 && cut > 0 {
			objs = append(objs, objs[r.Intn(cut)], slices.Clone(objs[0]))
			bases = append(bases, objs[r.Intn(cut)])
		}
		name := fmt.Sprint("family ", n)
		b := there(t, name, objs, bases)
		few := needed(t, name, b, bases)
		leaned += len(few)
		if l, e := Decode(b, few); e != api.OK || !same(l, sorted(objs)) {
			t.Errorf("%s: with the needed bases alone: %d objects, %d", name, len(l), e)
		}
		more := slices.Concat(objs, family(r, 3), few, [][]byte{nil, {9}})
		if l, e := Decode(b, more); e != api.OK || !same(l, sorted(objs)) {
			t.Errorf("%s: with other bases beside them: %d objects, %d", name, len(l), e)
		}
		if len(few) > 0 {
			if _, e := Decode(b, few[1:]); e != api.ErrPackBase {
				t.Errorf("%s: without one of its needs: %d", name, e)
			}
		}
		r.Shuffle(len(objs), func(i, k int) { objs[i], objs[k] = objs[k], objs[i] })
		r.Shuffle(len(bases), func(i, k int) { bases[i], bases[k] = bases[k], bases[i] })
		there(t, name+" in another order", objs, bases)
	}
	if leaned == 0 {
		t.Error("no pack leans on a base")
	}
}

func TestPacksHurt(t *testing.T) { // P9.5
	r := rand.New(rand.NewSource(6))
	for n := range 20 {
		objs, bases := family(r, 12), family(r, 4)
		b := there(t, fmt.Sprint(n), objs, bases)
		for range 200 {
			if l, e := Decode(hurt(r, b), bases); e != api.ErrPackSum || len(l) > 0 {
				t.Fatalf("a pack that was hurt: %d objects, %d", len(l), e)
			}
		}
	}
}

// lengths are blobs of noise of these lengths, their kind's byte counted.
func lengths(l ...int) [][]byte {
	var texts [][]byte
	for i, n := range l {
		texts = append(texts, blob(string(noise(n-1, byte(i)))))
	}
	return texts
}

// fifteen are objects whose lengths and 96 each are, with one of n bytes, 16 times 65536 and n - 65440.
func fifteen(n int) [][]byte {
	l := slices.Repeat([]int{65440}, 15)
	return lengths(append(l, n)...)
}

func TestEncodeEdges(t *testing.T) { // P9.3
	few := numbered(1024)
	for _, x := range []struct {
		name        string
		objs, bases [][]byte
	}{
		{"none", nil, nil},
		{"none, bases beside", nil, few},
		{"a blob of no bytes", [][]byte{{1}}, nil},
		{"one", few[:1], nil},
		{"one several times", [][]byte{few[0], few[0], slices.Clone(few[0])}, nil},
		{"one that is its own base", lengths(500), lengths(500)},
		{"all are bases, too", lengths(500, 600, 700), lengths(500, 600, 700)},
		{"1024", few, nil},
		{"1024, each twice", slices.Concat(few, few), few},
		{"65536 bytes", lengths(65536), nil},
		{"65536 bytes beside themselves, but for one", [][]byte{lengths(65536)[0]}, [][]byte{changed(lengths(65536)[0], 40000)}},
		{"65536 bytes beside a base that shares 60 bytes", [][]byte{lengths(65536)[0]}, [][]byte{append(slices.Clone(lengths(65536)[0][:60]), noise(65000, 77)...)}},
		{"as long as may be", fifteen(65440 - 64), nil},
		{"as long as may be, some several times", append(fifteen(65440-64), fifteen(65440 - 64)[:3]...), nil},
		{"more bases than a pack may hold", few[:3], slices.Concat(numbered(1500), fifteen(65440), lengths(65536))},
		{"noise of 148 bytes and about", lengths(146, 147, 148, 149, 150, 151, 300), nil},
	} {
		there(t, x.name, x.objs, x.bases)
	}
}

func changed(b []byte, at int) []byte {
	b = slices.Clone(b)
	b[at] ^= 1
	return b
}

func TestEncodeRefuses(t *testing.T) { // P9.3, R4
	many := numbered(1025)
	long := fifteen(65440 - 63)
	bad := [][]byte{{7, 1}}
	for _, x := range []struct {
		name        string
		objs, bases [][]byte
		want        api.Errno
	}{
		{"no encoding", bad, nil, api.ErrPackObject},
		{"no bytes", [][]byte{{}}, nil, api.ErrPackObject},
		{"nil", [][]byte{nil}, nil, api.ErrPackObject},
		{"no encoding behind others", append(numbered(5), bad...), nil, api.ErrPackObject},
		{"a tree that is cut", [][]byte{{2, 1}}, nil, api.ErrPackObject},
		{"MaxObject bytes and one", lengths(65537), nil, api.ErrPackObject},
		{"a base that is no encoding", numbered(1), bad, api.ErrPackObject},
		{"a base that is no encoding, no objects", nil, [][]byte{{}}, api.ErrPackObject},
		{"a base of MaxObject bytes and one", nil, lengths(65537), api.ErrPackObject},
		{"1025", many, nil, api.ErrPackMany},
		{"1025 and one that is no encoding", append(many[:1025:1025], bad...), nil, api.ErrPackObject},
		{"1025 and a base that is no encoding", many, append(numbered(3), bad...), api.ErrPackObject},
		{"longer by one", long, nil, api.ErrPackLong},
		{"longer by one, told by bases", long, long, api.ErrPackLong},
		{"one more of one byte", append(fifteen(65440-64), []byte{1}), nil, api.ErrPackLong},
		{"long, and one that is no encoding", append(long[:16:16], bad...), nil, api.ErrPackObject},
		{"long, and a base that is no encoding", long, bad, api.ErrPackObject},
		{"long and 1025", slices.Concat(long, many), nil, api.ErrPackMany},
		{"zeros that would be pressed to little", zeros(17), nil, api.ErrPackLong},
	} {
		if b, e := Encode(x.objs, x.bases); e != x.want || len(b) > 0 {
			t.Errorf("%s: %d bytes, %d, want %d", x.name, len(b), e, x.want)
		}
	}
}

func zeros(n int) [][]byte {
	_, texts := full(n)
	return texts
}

// ends tells p and s by the words of P7.3.
func ends(base, enc []byte) (p, s int) {
	for p < min(len(base), len(enc)) && base[p] == enc[p] {
		p++
	}
	for s < min(len(base), len(enc))-p && base[len(base)-1-s] == enc[len(enc)-1-s] {
		s++
	}
	return p, s
}

func leans(t *testing.T, name string, base, enc []byte) {
	t.Helper()
	b := there(t, name, [][]byte{enc}, [][]byte{base})
	if without, _ := Encode([][]byte{enc}, nil); len(b) > len(without) {
		t.Errorf("%s: %d bytes, %d without the base", name, len(b), len(without))
	}
	p, s := ends(base, enc)
	if most := len(enc) - p - s + 200; len(b) > most {
		t.Errorf("%s: %d bytes beside %d, %d and %d in common: %d bytes, at most %d", name, len(enc), len(base), p, s, len(b), most)
	}
}

func TestLeans(t *testing.T) { // P9.4
	long := lengths(65536)[0]
	entries := func(n, other int) []byte {
		var l []api.Entry
		for i := range n {
			l = append(l, api.Entry{Mode: 1, Name: fmt.Sprintf("%05d", i), ID: api.ID(noise(32, byte(i+i/256)))})
		}
		l[other].ID[7] ^= 1
		return encoded(api.Object{Kind: api.KindTree, Entries: l})
	}
	commit := func(time uint64) []byte {
		return encoded(api.Object{Kind: api.KindCommit, Commit: api.Commit{Who: "me", Time: time, Text: string(noise(4000, 3))}})
	}
	tag := func(name string) []byte {
		return encoded(api.Object{Kind: api.KindTag, Tag: api.Tag{Kind: 1, Name: name, Text: string(noise(4000, 3))}})
	}
	for _, x := range []struct {
		name      string
		base, enc []byte
	}{
		{"one byte of 5000", long[:5001], changed(long[:5001], 2500)},
		{"one byte of 65536", long, changed(long, 30000)},
		{"the last byte of 65536", long, changed(long, 65535)},
		{"the first byte of 65535", long, changed(long, 1)},
		{"a short one of a long one's beginning", long, long[:300]},
		{"a long one of a short one and more", long[:300], long},
		{"one byte of a blob", []byte{1}, []byte{1, 'x'}},
		{"a tree of 1024", entries(1024, 5), entries(1024, 900)},
		{"a tree of 2", entries(2, 0), entries(2, 1)},
		{"a commit", commit(1), commit(2)},
		{"a tag", tag("a"), tag("bb")},
		{"what takes fewer bytes alone", blob(strings.Repeat("ab", 30) + "cd"), blob(strings.Repeat("ab", 30000))},
		{"noise of 65536", long, blob(string(noise(65535, 200)))},
	} {
		leans(t, x.name, x.base, x.enc)
		leans(t, x.name+", the other way", x.enc, x.base)
	}
}

func TestLeansDrawn(t *testing.T) { // P9.4
	r := rand.New(rand.NewSource(4))
	sizes := []int{0, 1, 20, 57, 58, 100, 115, 116, 117, 148, 149, 200, 1000, 9000}
	size := func() int { return sizes[r.Intn(len(sizes))] + r.Intn(3) }
	piece := func(n int) []byte {
		if r.Intn(4) == 0 {
			return bytes.Repeat([]byte("ab"), n)
		}
		return noise(n, byte(r.Intn(256)))
	}
	for n := range 600 {
		head, tail := piece(size()), piece(size())
		base := blob(string(slices.Concat(head, piece(size()), tail)))
		enc := blob(string(slices.Concat(head, piece(size()), tail)))
		if !bytes.Equal(base, enc) {
			leans(t, fmt.Sprint("drawn ", n), base, enc)
		}
	}
}

func TestManyVersions(t *testing.T) { // P9.3: many that could stand in one chain; it must not be too deep
	text := noise(2000, 1)
	var grown, edited [][]byte
	for i := range 60 {
		text = append(text, noise(10, byte(i))...)
		grown = append(grown, blob(string(text)))
		turned := slices.Clone(text[:2000])
		for k := range i {
			turned[30*k] ^= 1
		}
		edited = append(edited, blob(string(turned)))
	}
	for name, objs := range map[string][][]byte{"grown": grown, "edited": edited, "both": append(grown, edited...)} {
		b := there(t, name, objs[1:], objs[:1])
		if len(b) > 20*len(text) {
			t.Errorf("%s: %d bytes: nothing is told by what it shares", name, len(b))
		}
	}
}
