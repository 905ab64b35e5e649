package ledger

import (
	"fmt"
	"math/rand"
	"slices"
	"testing"

	"satchel/api"
	"satchel/refs"
	"satchel/store"
)

func TestStampsOfAllBundlesMerged(t *testing.T) { // P16.11
	r := rand.New(rand.NewSource(11))
	s := store.New()
	for range 200 {
		l, _ := Empty("a", "b")
		var bundles [][]api.Stamp
		for range 1 + r.Intn(12) {
			var list []api.Ref
			for k := range 6 {
				if r.Intn(2) == 0 {
					list = append(list, api.Ref{Name: fmt.Sprint("r", k), ID: all(byte(1 + r.Intn(2)))})
				}
			}
			var h api.Header
			l, h = sends(t, l, s, list)
			bundles = append(bundles, h.Stamps)
		}
		last := bundles[len(bundles)-1]
		for range 10 {
			come := [][]api.Stamp{last}
			for range r.Intn(20) {
				come = append(come, bundles[r.Intn(len(bundles))])
			}
			r.Shuffle(len(come), func(i, k int) { come[i], come[k] = come[k], come[i] })
			var merged []api.Stamp
			for _, stamps := range come {
				merged = refs.Merge(merged, stamps)
			}
			if !slices.Equal(merged, last) {
				t.Errorf("merged: %.4x, the last bundle's: %.4x", merged, last)
			}
		}
	}
}

// source is a store that grows and loses objects, with a ledger; complete holds all that there ever was.
type source struct {
	r           *rand.Rand
	s, complete *store.Store
	ids         []api.ID
	l           api.Ledger
	tips        map[uint64][]api.ID // of the bundles that were sent and not lost
	confirmed   map[uint64][]api.ID
}

func (x *source) grow() {
	parents := []api.ID{}
	for range x.r.Intn(3) {
		if len(x.ids) > 0 {
			parents = append(parents, x.ids[x.r.Intn(len(x.ids))])
		}
	}
	tree := tree(put(x.complete, blob(fmt.Sprint(x.r.Intn(5)))))
	o := commit(put(x.complete, tree), fmt.Sprint(len(x.ids)), sorted(parents...)...)
	x.ids = append(x.ids, put(x.complete, o))
	enc, _ := x.complete.Get(tree.Entries[0].ID)
	x.s.Put(enc)
	put(x.s, tree)
	put(x.s, o)
}

func (x *source) send(t *testing.T) {
	t.Helper()
	var list []api.Ref
	for k := range x.r.Intn(4) {
		list = append(list, api.Ref{Name: fmt.Sprint(k), ID: x.ids[x.r.Intn(len(x.ids))]})
	}
	for _, sure := range []bool{false, true} {
		from := x.tips
		if sure {
			from = x.confirmed
		}
		there := map[api.ID]int{}
		m := modelOf(x.complete)
		for _, tips := range from {
			for _, id := range tips {
				there[id]++
				for behind := range m.reach(id) {
					there[behind]++
				}
			}
		}
		_, basis, err := Plan(x.l, x.s, list, sure)
		answers(t, "Plan", err, api.OK)
		for _, id := range basis {
			if there[id] == 0 {
				t.Errorf("bundle %d, sure: %v: %.4x was never brought", x.l.Next, sure, id)
			}
		}
	}
	var h api.Header
	x.l, h = sends(t, x.l, x.s, list)
	for _, ref := range list {
		x.tips[h.Seq] = append(x.tips[h.Seq], ref.ID)
	}
}

// lose calls a bundle lost that is not confirmed, nor is one behind it.
func (x *source) lose(t *testing.T) {
	t.Helper()
	number := x.l.Next - 1
	for number > 0 && x.confirmed[number] == nil && x.r.Intn(2) == 0 {
		number--
	}
	if number == 0 || x.confirmed[number] != nil {
		return
	}
	var err error
	x.l, err = Lost(x.l, x.s, number)
	answers(t, "Lost", err, api.OK)
	for n := range x.tips {
		if n >= number {
			delete(x.tips, n)
		}
	}
}

func (x *source) confirm(t *testing.T) {
	t.Helper()
	var numbers []uint64
	for n := range x.tips {
		if x.r.Intn(3) == 0 {
			numbers = append(numbers, n)
			x.confirmed[n] = append([]api.ID{}, x.tips[n]...)
		}
	}
	b, err := Slip("a", "b", numbers, nil)
	answers(t, "Slip", err, api.OK)
	x.l, err = Confirm(x.l, x.s, nil, b)
	answers(t, "Confirm", err, api.OK)
}

func TestWhatIsLeanedOnWasBrought(t *testing.T) { // P16.12
	for seed := range int64(100) {
		l, _ := Empty("a", "b")
		x := &source{r: rand.New(rand.NewSource(seed)), s: store.New(), complete: store.New(), l: l, tips: map[uint64][]api.ID{}, confirmed: map[uint64][]api.ID{}}
		x.grow()
		for range 40 {
			switch x.r.Intn(8) {
			case 0, 1:
				x.grow()
			case 2:
				x.lose(t)
			case 3:
				x.confirm(t)
			case 4:
				x.s.Remove(x.ids[x.r.Intn(len(x.ids))])
			default:
				x.send(t)
			}
		}
		if t.Failed() {
			t.Fatalf("seed %d", seed)
		}
	}
}

func TestManyBundlesUnconfirmed(t *testing.T) { // P16.5, P16.12: a line of commits, more of them than MaxSent, then receipts and one that was lost
	s := store.New()
	files := put(s, tree())
	line := []api.ID{put(s, commit(files, "0"))}
	l, _ := Empty("a", "b")
	for i := range 100 {
		line = append(line, put(s, commit(files, fmt.Sprint(i+1), line[i])))
		h := plans(t, "a bundle", l, s, ref("x", line[i+1]), false, l.Lean, stamp("x", line[i+1], i+1), api.OK)
		var err error
		l, err = Sent(l, s, h)
		answers(t, "Sent", err, api.OK)
		if !slices.Equal(l.Lean, line[i+1:]) {
			t.Fatalf("bundle %d: %.4x lean", i+1, l.Lean)
		}
	}
	slip, _ := Slip("a", "b", []uint64{1, 2, 3, 40, 50}, nil)
	l, err := Confirm(l, s, nil, slip)
	answers(t, "Confirm", err, api.OK)
	if !slices.Equal(l.Sure, line[50:51]) || !slices.Equal(l.Lean, line[100:]) || len(l.Sent) != 62 || l.Sent[0].Seq != 37 {
		t.Errorf("%.4x sure, %.4x lean, %d wait", l.Sure, l.Lean, len(l.Sent))
	}
	l, err = Lost(l, s, 60)
	answers(t, "Lost", err, api.OK)
	if !slices.Equal(l.Sure, line[50:51]) || !slices.Equal(l.Lean, line[59:60]) || len(l.Sent) != 21 || l.Next != 101 {
		t.Errorf("%.4x sure, %.4x lean, %d wait", l.Sure, l.Lean, len(l.Sent))
	}
	h := plans(t, "behind it", l, s, ref("x", line[100]), true, line[50:51], stamp("x", line[100], 100), api.OK)
	if h.Seq != 101 {
		t.Errorf("the next bundle is %d", h.Seq)
	}
}
