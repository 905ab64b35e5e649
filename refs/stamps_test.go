package refs

import (
	"bytes"
	"math"
	"math/rand"
	"slices"
	"sort"
	"testing"

	"satchel/api"
)

// all tells an id whose bytes are all the same.
func all(b byte) api.ID { return api.ID(bytes.Repeat([]byte{b}, len(api.ID{}))) }

func stamp(name string, seq uint64, id api.ID) api.Stamp {
	return api.Stamp{Name: name, Seq: seq, ID: id}
}

// merges looks whether two lists give a third one: both ways round, as one list, and again with what they give.
func merges(t *testing.T, have, more []api.Stamp, want ...api.Stamp) {
	t.Helper()
	both := slices.Concat(have, more)
	for _, lists := range [][2][]api.Stamp{{have, more}, {more, have}, {both, nil}, {{}, both}, {both, both}, {want, more}, {have, want}, {want, want}} {
		if got := Merge(lists[0], lists[1]); !slices.Equal(got, want) {
			t.Errorf("Merge(%.8v, %.8v): %.8v, want %.8v", lists[0], lists[1], got, want)
		}
	}
}

func TestMergeExamples(t *testing.T) { // P14.7
	p, q := all(1), all(2)
	merges(t, []api.Stamp{stamp("b", 2, p), stamp("a", 1, p)}, []api.Stamp{stamp("a", 1, q), stamp("b", 1, q)}, stamp("a", 1, q), stamp("b", 2, p))
	merges(t, nil, nil)
	merges(t, []api.Stamp{}, []api.Stamp{})
	merges(t, []api.Stamp{stamp("a", 1, p)}, nil, stamp("a", 1, p))
	merges(t, []api.Stamp{stamp("a", 1, p)}, []api.Stamp{stamp("a", 1, p)}, stamp("a", 1, p))
	merges(t, []api.Stamp{stamp("b", 1, p)}, []api.Stamp{stamp("a", 1, p)}, stamp("a", 1, p), stamp("b", 1, p))
}

func TestMergeCounts(t *testing.T) { // P14.7: the greatest Seq, of several such the greatest ID by its bytes
	beginsGreater, endsGreater := api.ID{1}, api.ID{31: 1}
	const most = math.MaxUint64
	for _, c := range []struct{ less, more api.Stamp }{
		{stamp("a", 1, all(9)), stamp("a", 2, all(1))},
		{stamp("a", 0, all(255)), stamp("a", 1, api.ID{})},
		{stamp("a", 9, all(255)), stamp("a", 10, api.ID{})},
		{stamp("a", 255, all(1)), stamp("a", 256, all(1))},
		{stamp("a", api.MaxSeq, all(1)), stamp("a", api.MaxSeq+1, all(1))},
		{stamp("a", 1<<63-1, all(1)), stamp("a", 1<<63, all(1))},
		{stamp("a", 0, all(1)), stamp("a", most, all(1))},
		{stamp("a", most-1, all(1)), stamp("a", most, all(1))},
		{stamp("a", 1, all(1)), stamp("a", 1<<32, all(1))},
		{stamp("a", 3, api.ID{}), stamp("a", 3, endsGreater)},
		{stamp("a", 3, endsGreater), stamp("a", 3, beginsGreater)},
		{stamp("a", 3, all(127)), stamp("a", 3, all(128))},
		{stamp("a", most, all(254)), stamp("a", most, all(255))},
	} {
		merges(t, []api.Stamp{c.less}, []api.Stamp{c.more}, c.more)
		merges(t, []api.Stamp{c.less, c.more, c.less}, []api.Stamp{c.less}, c.more)
		merges(t, []api.Stamp{c.more, c.less, c.more}, []api.Stamp{c.more, c.less}, c.more)
		other := stamp("b", 1, api.ID{})
		merges(t, []api.Stamp{other, c.less}, []api.Stamp{c.more, c.less, other}, c.more, other)
	}
}

func TestMergeNames(t *testing.T) { // P14.7: names may be any, and are sorted by their bytes
	names := []string{"", "\x00", "A", "HEAD", "a", "a\x00", "a b", "a.b", "a/b", "ab", "b", "z", "é", "€", "\xff", "\xff\xff"}
	var sorted, turned []api.Stamp
	for i, name := range names {
		sorted = append(sorted, stamp(name, uint64(i%3), all(byte(i%2))))
	}
	turned = slices.Clone(sorted)
	slices.Reverse(turned)
	merges(t, turned, nil, sorted...)
	merges(t, turned, sorted, sorted...)
	merges(t, turned[:9], turned[4:], sorted...)
	for i := range sorted {
		merges(t, []api.Stamp{sorted[i]}, slices.Concat(turned[:len(turned)-1-i], turned[len(turned)-i:]), sorted...)
	}
}

// modelMerge tells what counts of each name by holding it against all others.
func modelMerge(lists ...[]api.Stamp) []api.Stamp {
	every := slices.Concat(lists...)
	var list []api.Stamp
	for i, s := range every {
		counts := !slices.Contains(every[:i], s)
		for _, other := range every {
			if other.Name == s.Name && (other.Seq > s.Seq || other.Seq == s.Seq && string(other.ID[:]) > string(s.ID[:])) {
				counts = false
			}
		}
		if counts {
			list = append(list, s)
		}
	}
	sort.Slice(list, func(i, j int) bool { return list[i].Name < list[j].Name })
	return list
}

func TestMergeAgainstTheModel(t *testing.T) { // P14.7: in any order, any number of times
	r := rand.New(rand.NewSource(4))
	draw := func() []api.Stamp {
		var list []api.Stamp
		for range r.Intn(12) {
			list = append(list, stamp([]string{"", "a", "b", "ab", "\xff", "é"}[r.Intn(6)], uint64(r.Intn(4)), all(byte(r.Intn(4)))))
		}
		return list
	}
	for range 4000 {
		a, b, c := draw(), draw(), draw()
		merges(t, a, b, modelMerge(a, b)...)
		merges(t, a, nil, modelMerge(a)...)
		want := modelMerge(a, b, c)
		for _, got := range [][]api.Stamp{Merge(Merge(a, b), c), Merge(a, Merge(b, c)), Merge(Merge(c, a), Merge(b, a))} {
			if !slices.Equal(got, want) {
				t.Errorf("%v, %v, %v: %v, want %v", a, b, c, got, want)
			}
		}
		r.Shuffle(len(a), func(i, j int) { a[i], a[j] = a[j], a[i] })
		merges(t, b, a, modelMerge(a, b)...)
	}
}
