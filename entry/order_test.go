package entry

import (
	"fmt"
	"math/rand"
	"slices"
	"testing"

	"satchel/api"
	"satchel/refs"
	"satchel/store"
	"satchel/vault"
)

// history is what a source sends: its bundles, and all their stamps.
type history struct {
	bundles [][]byte
	numbers []uint64
	stamps  []api.Stamp
}

// sends draws what a source sends: it goes on, goes back, starts anew, gives refs up and takes them again; some bundles lean on earlier ones, some repeat what they bring.
func sends(r *rand.Rand, count int) history {
	w := newWorld()
	var x history
	names := []string{"heads/a", "heads/b", "tags/v"}
	now := map[string]api.Stamp{}
	tips := []api.ID{w.c}
	sent := store.New()
	seq := 0
	for i := range count {
		seq += 1 + r.Intn(2)
		for _, name := range names {
			id := tips[r.Intn(len(tips))]
			switch r.Intn(5) {
			case 0:
				continue
			case 1:
				id = none
			case 2, 3:
				id = w.on(fmt.Sprint(name, i), id)
				tips = append(tips, id)
			}
			if now[name].ID != id || now[name].Seq == 0 {
				now[name] = api.Stamp{Name: name, ID: id, Seq: uint64(seq)}
			}
		}
		var list []api.Stamp
		var want []api.ID
		for _, name := range names {
			if now[name].Seq > 0 {
				list = append(list, now[name])
			}
			if now[name].ID != none {
				want = append(want, w.reach(now[name].ID)...)
			}
		}
		var basis []api.ID
		if i > 0 && r.Intn(3) > 0 {
			// What was sent ahead is leaned on.
			want = less(want, sent.Ids())
			basis = leaned(w, sent, list)
		}
		x.bundles = append(x.bundles, w.brings(head(uint64(seq), basis, list), want...))
		x.numbers = append(x.numbers, uint64(seq))
		x.stamps = append(x.stamps, list...)
		for _, enc := range w.encs(want...) {
			sent.Put(enc)
		}
	}
	return x
}

// leaned tells what of the stamps' histories has been sent.
func leaned(w *world, sent *store.Store, list []api.Stamp) []api.ID {
	var basis []api.ID
	for _, stamp := range list {
		if stamp.ID == none {
			continue
		}
		for _, id := range w.reach(stamp.ID) {
			if sent.Has(id) {
				basis = append(basis, id)
			}
		}
	}
	return basis
}

// all tells the outcome of bundles that come in some order, again and again, till each has been accepted.
func (x history) all(t *testing.T, rules []api.Rule, order func() []int) string {
	t.Helper()
	v := newVault(t)
	done := map[int]int{}
	for round := 0; len(done) < len(x.bundles); round++ {
		if round > len(x.bundles)*4 {
			t.Fatal("the bundles don't come in")
		}
		for _, i := range order() {
			r, err := Import(v, "away", []byte("k"), rules, x.bundles[i])
			if err != nil {
				if api.Code(err) != api.ErrEntryMissing {
					t.Fatalf("bundle %d: %v", i, err)
				}
				continue
			}
			if r.Again != (done[i] > 0) {
				t.Errorf("bundle %d: again %v", i, r.Again)
			}
			done[i]++
			x.again(t, v, rules, done)
		}
	}
	accepts(t, "all", v, "home", x.numbers...)
	x.best(t, v, rules)
	closed(t, "all", v)
	return fmt.Sprintf("%.4x %.4x %x", v.Refs(), v.Ids(), notesOf(v))
}

// again imports what has been accepted once more. (P17.4)
func (x history) again(t *testing.T, v *vault.Vault, rules []api.Rule, done map[int]int) {
	t.Helper()
	for i := range x.bundles {
		if done[i] == 0 {
			continue
		}
		was := seen(v)
		r, err := Import(v, "away", []byte("k"), rules, x.bundles[i])
		answers(t, "again", err, api.OK)
		if !r.Again || r.Objects != 0 || r.Seq != x.numbers[i] || moves(r) || seen(v) != was {
			t.Errorf("bundle %d again: %s", i, told(r))
		}
	}
}

// best holds that each target is where the best stamp of its name says. (P17.5)
func (x history) best(t *testing.T, v *vault.Vault, rules []api.Rule) {
	t.Helper()
	for _, stamp := range refs.Merge(x.stamps, nil) {
		target, forced, ok := refs.Map(rules, stamp.Name)
		if id, there := v.Ref(target); ok && forced && (id != stamp.ID || there != (stamp.ID != none)) {
			t.Errorf("%s is at %.4x, want %.4x", target, id, stamp.ID)
		}
	}
}

// orders tells all orders of n things.
func orders(n int) [][]int {
	if n == 0 {
		return [][]int{nil}
	}
	var list [][]int
	for _, order := range orders(n - 1) {
		for at := range n {
			list = append(list, slices.Insert(slices.Clone(order), at, n-1))
		}
	}
	return list
}

func TestEveryOrder(t *testing.T) { // P17.5, P17.4
	rules := rulesOf("+heads/*:far/home/* +tags/*:tags/*")
	for seed := range int64(8) {
		x := sends(rand.New(rand.NewSource(seed)), 4)
		outcomes := map[string]int{}
		for _, order := range orders(4) {
			outcomes[x.all(t, rules, func() []int { return order })]++
			outcomes[x.all(t, rules, func() []int { return append(slices.Clone(order), order[0], order[2]) })]++
		}
		if len(outcomes) != 1 {
			t.Errorf("history %d: %d outcomes", seed, len(outcomes))
		}
	}
}

func TestDrawnOrders(t *testing.T) { // P17.5, P17.4; without Force P17.4 alone
	for seed := range int64(12) {
		r := rand.New(rand.NewSource(seed + 100))
		x := sends(r, 9)
		outcomes := map[string]int{}
		for range 4 {
			outcomes[x.all(t, rulesOf("+heads/*:far/home/* +tags/*:tags/* ^heads/b"), func() []int { return r.Perm(9)[:1+r.Intn(9)] })]++
			x.all(t, rulesOf("heads/*:far/home/* tags/*:tags/*"), func() []int { return r.Perm(9)[:1+r.Intn(9)] })
		}
		if len(outcomes) != 1 {
			t.Errorf("history %d: %d outcomes", seed, len(outcomes))
		}
	}
}

func TestForgedStampsInEveryOrder(t *testing.T) { // P17.5: stamps that no honest source sends
	w := newWorld()
	e := w.on("e", w.c)
	list := [][]api.Stamp{
		stamps("heads/a", w.c, 2, "heads/b", w.d, 1),
		stamps("heads/a", w.d, 2, "heads/b", e, 3),
		stamps("heads/a", e, 2, "heads/b", none, 3),
		stamps("heads/a", none, 1, "heads/b", w.c, 2),
	}
	var x history
	for i, stamps := range list {
		x.bundles = append(x.bundles, w.brings(head(uint64(i+3), nil, stamps), w.s.Ids()...))
		x.numbers = append(x.numbers, uint64(i+3))
		x.stamps = append(x.stamps, stamps...)
	}
	outcomes := map[string]int{}
	for _, order := range orders(4) {
		outcomes[x.all(t, rulesOf("+heads/*:far/*"), func() []int { return order })]++
	}
	if len(outcomes) != 1 {
		t.Errorf("%d outcomes", len(outcomes))
	}
}
