package entry

import (
	"bytes"
	"slices"
	"strings"
	"testing"

	"satchel/api"
	"satchel/ledger"
	"satchel/vault"
)

// examples are the three bundles of the chapter.
func (w *world) examples() (b1, b2, b3 []byte) {
	b1 = w.brings(head(1, nil, stamps("heads/main", w.c, 1)), w.b, w.t, w.c)
	b2 = w.brings(head(2, ids(w.c), stamps("heads/main", w.d, 2, "heads/x", w.c, 2)), w.d)
	b3 = w.brings(head(3, ids(w.d), stamps("heads/main", w.d, 2, "heads/x", none, 3)))
	return b1, b2, b3
}

// exampleVault is the vault behind the first seven rows of the examples.
func exampleVault(t *testing.T, w *world) *vault.Vault {
	t.Helper()
	v := newVault(t)
	b1, b2, b3 := w.examples()
	main, x := "far/home/main", "far/home/x"
	refuses(t, "B2", v, exampleRules, b2, api.ErrEntryMissing, w.c)
	accepts(t, "B2", v, "home")
	comes(t, "B1", v, exampleRules, b1, result(1, 3, false, main, none, w.c, api.HowMade))
	comes(t, "B1 again", v, exampleRules, b1, result(1, 0, true, main, w.c, w.c, api.HowSame))
	comes(t, "B2", v, exampleRules, b2, result(2, 1, false, main, w.c, w.d, api.HowForward, x, none, w.c, api.HowMade))
	comes(t, "B1 late", v, exampleRules, b1, result(1, 0, true, main, w.d, w.c, api.HowStale))
	comes(t, "B3", v, exampleRules, b3, result(3, 0, false, main, w.d, w.d, api.HowSame, x, w.c, none, api.HowGone))
	comes(t, "B2 late", v, exampleRules, b2, result(2, 0, true, main, w.d, w.d, api.HowSame, x, none, w.c, api.HowStale))
	return v
}

func TestExamples(t *testing.T) { // P17.1 to P17.4, P17.6
	w := newWorld()
	v := exampleVault(t, w)
	b1, _, _ := w.examples()
	accepts(t, "home", v, "home", 1, 2, 3)
	accepts(t, "nobody", v, "nobody")
	stays(t, "B1 for there", v, "there", "k", exampleRules, b1, api.ErrEntryFor)
	stays(t, "B1 with q", v, "away", "q", exampleRules, b1, api.ErrBundleSeal)
	refuses(t, "B1 without its last byte", v, exampleRules, b1[:len(b1)-1], api.ErrBundleSeal)

	main, x := "far/home/main", "far/home/x"
	both := rulesOf("heads/*:far/home/* heads/main:far/home/x")
	v2 := newVault(t)
	b := w.brings(head(1, nil, stamps("heads/main", w.c, 1, "heads/x", w.d, 1)), w.b, w.t, w.c, w.d)
	comes(t, "no clash", v2, both, b, result(1, 4, false, main, none, w.c, api.HowMade, x, none, w.d, api.HowMade))

	h := api.Header{From: "other", To: "away", Seq: 1, Stamps: stamps("heads/x", w.c, 1)}
	refuses(t, "from other", v, exampleRules, w.brings(h), api.ErrEntryFrom)

	slip, err := Receipt(v, "away", "home", []byte("k"))
	answers(t, "Receipt", err, api.OK)
	if want, _ := ledger.Slip("home", "away", []uint64{1, 2, 3}, []byte("k")); !bytes.Equal(slip, want) {
		t.Errorf("Receipt: %x, want %x", slip, want)
	}
}

func TestReceipts(t *testing.T) { // P17.6
	w := newWorld()
	v := newVault(t)
	var numbers []uint64
	for _, seq := range []uint64{7, 300, 6, 9, api.MaxSeq, 8, 1, api.MaxSeq - 1} {
		answersImport(t, v, w.brings(head(seq, nil, nil)))
		numbers = append(numbers, seq)
		slices.Sort(numbers)
		accepts(t, "home", v, "home", numbers...)
		slip, err := Receipt(v, "away", "home", []byte("key"))
		answers(t, "Receipt", err, api.OK)
		if want, _ := ledger.Slip("home", "away", numbers, []byte("key")); !bytes.Equal(slip, want) {
			t.Errorf("Receipt of %d: %x, want %x", numbers, slip, want)
		}
	}
	for _, from := range []string{"", "Home", "hom", "homes", "home/", "/home", "a/b", "\xff", "away", "entry/home", "nobody", strings.Repeat("n", 255), strings.Repeat("n", 256), strings.Repeat("n", 100000)} {
		accepts(t, "of nobody", v, from)
		slip, err := Receipt(v, "away", from, nil)
		want, e := ledger.Slip(from, "away", nil, nil)
		answers(t, "Receipt for "+from[:min(len(from), 9)], err, api.Code(e))
		if !bytes.Equal(slip, want) {
			t.Errorf("Receipt for %.9q: %x, want %x", from, slip, want)
		}
		slip, err = Receipt(v, from, "home", nil)
		want, e = ledger.Slip("home", from, numbers, nil)
		answers(t, "Receipt by "+from[:min(len(from), 9)], err, api.Code(e))
		if !bytes.Equal(slip, want) {
			t.Errorf("Receipt by %.9q: %x, want %x", from, slip, want)
		}
	}
}

// answersImport imports a bundle that must come in.
func answersImport(t *testing.T, v *vault.Vault, data []byte) {
	t.Helper()
	_, err := Import(v, "away", []byte("k"), exampleRules, data)
	answers(t, "Import", err, api.OK)
}

// fault is a bundle that one of the steps refuses: what lays it, and what is told.
type fault struct {
	name string
	lay  func(x *call)
	n    api.Errno
	ids  []api.ID
}

// call is what is handed in to Import.
type call struct {
	h     api.Header
	objs  [][]byte
	pack  func(p []byte) []byte
	seal  func(b []byte) []byte
	me    string
	rules []api.Rule
}

func (x *call) data() []byte {
	slices.SortFunc(x.h.Stamps, func(a, b api.Stamp) int { return strings.Compare(a.Name, b.Name) })
	return x.seal(lay(x.h, x.pack(packOf(x.objs...)), "k"))
}

// newCall is a bundle that comes in at the vault of the steps.
func (w *world) newCall() *call {
	keep := func(b []byte) []byte { return b }
	return &call{
		h:     head(512, ids(w.c), stamps("heads/a", w.d, 3, "heads/b", w.c, 512, "heads/c", none, 512)),
		objs:  w.encs(w.d),
		pack:  keep,
		seal:  keep,
		me:    "away",
		rules: rulesOf("heads/*:far/home/* tags/*:far/tags/*"),
	}
}

// stepVault is a vault in which each of the steps may refuse a bundle: home has the greatest number of rows, and a stamp; other has a target.
func stepVault(t *testing.T, w *world) *vault.Vault {
	t.Helper()
	v := newVault(t)
	answersImport(t, v, w.brings(head(1, nil, stamps("tags/kept", w.c, 1)), w.b, w.t, w.c))
	for i := range api.MaxRanges - 1 {
		answersImport(t, v, w.brings(head(uint64(2*i+3), nil, nil)))
	}
	h := api.Header{From: "other", To: "away", Seq: 1, Stamps: stamps("tags/o", w.c, 1)}
	_, err := Import(v, "away", []byte("k"), w.newCall().rules, w.brings(h))
	answers(t, "other's bundle", err, api.OK)
	return v
}

// stepFaults are in the order of the steps; each one is refused by its own step alone.
func (w *world) stepFaults() []fault {
	odd := put(w.s, commit(w.b, "odd"))
	open := put(w.s, commit(all(7), "open"))
	return []fault{
		{"too long", func(x *call) { x.seal = func(b []byte) []byte { return make([]byte, api.MaxBundle+1) } }, api.ErrBundleLong, nil},
		{"cut short", func(x *call) { x.seal = func(b []byte) []byte { return b[:len(b)-1] } }, api.ErrBundleSeal, nil},
		{"no header", func(x *call) { x.h.Seq = api.MaxSeq + 1 }, api.ErrBundleForm, nil},
		{"a name", func(x *call) { x.h.Stamps[0].Name = "/" }, api.ErrBundleName, nil},
		{"for others", func(x *call) { x.me = "there" }, api.ErrEntryFor, nil},
		{"prerequisites", func(x *call) { x.h.Basis = sorted(w.c, all(9), all(1)) }, api.ErrEntryMissing, ids(all(1), all(9))},
		{"a pack", func(x *call) { x.pack = func(p []byte) []byte { return p[1:] } }, api.ErrPackSum, nil},
		{"closure", func(x *call) { x.objs = append(x.objs, w.encs(odd, open)...) }, api.ErrBundleClosure, sorted(w.b, all(7))},
		{"a stamp", func(x *call) { x.h.Stamps[1].ID = all(8) }, api.ErrBundleRef, ids(all(8))},
		{"a clash", func(x *call) {
			x.h.Stamps = append(x.h.Stamps, stamps("tags/kept2", w.c, 1)...)
			x.rules = append(rulesOf("tags/kept2:far/tags/kept"), x.rules...)
		}, api.ErrEntryClash, nil},
		{"another's", func(x *call) { x.h.Stamps = append(x.h.Stamps, stamps("tags/o", w.c, 1)...) }, api.ErrEntryFrom, nil},
		{"too many", func(x *call) { x.h.Seq = 900 }, api.ErrEntryMany, nil},
	}
}

func TestSteps(t *testing.T) { // P17.1, P17.3, R4: each step alone, and with what a later one would refuse
	w := newWorld()
	v := stepVault(t, w)
	faults := w.stepFaults()
	for i, first := range faults {
		for j, second := range faults[i:] {
			x := w.newCall()
			second.lay(x)
			if j > 0 {
				first.lay(x)
			}
			stays(t, first.name+" with "+second.name, v, x.me, "k", x.rules, x.data(), first.n, first.ids...)
		}
	}
	x := w.newCall()
	comes(t, "no fault", v, x.rules, x.data(), result(512, 1, false, "far/home/a", none, w.d, api.HowMade, "far/home/b", none, w.c, api.HowMade, "far/home/c", none, none, api.HowSame))
}

func TestFullVaultComesLast(t *testing.T) { // P17.1: what the vault refuses is told behind all else
	w := newWorld()
	d := diskOf(t, api.MaxRoom)
	v := opened(t, d)
	has(t, v, api.Txn{Objects: w.encs(w.b, w.t, w.c)})
	d.Plan(api.Plan{Off: 1})
	if err := v.Compact(); err == nil {
		t.Fatal("the power is on")
	}
	for _, f := range w.stepFaults() {
		x := w.newCall()
		f.lay(x)
		if f.n == api.ErrEntryClash || f.n == api.ErrEntryFrom || f.n == api.ErrEntryMany {
			continue // there is no other source, and no row
		}
		stays(t, f.name, v, x.me, "k", x.rules, x.data(), f.n, f.ids...)
	}
}

func TestFor(t *testing.T) { // P17.1, step 2
	w := newWorld()
	v := newVault(t)
	for _, to := range []string{"away", "a", "..", strings.Repeat("z", 64)} {
		h := head(1, nil, nil)
		h.To = to
		b := w.brings(h)
		for _, me := range []string{"", to + "x", to[1:], "Away", "home", strings.ToUpper(to + "a"), strings.Repeat(to, 5000)} {
			stays(t, "to "+to, v, me, "k", exampleRules, b, api.ErrEntryFor)
		}
		r, err := Import(v, to, []byte("k"), exampleRules, b)
		answers(t, "to "+to, err, api.OK)
		if !sameResult(r, result(1, 0, to != "away")) {
			t.Errorf("to %s: %s", to, told(r))
		}
	}
}

func TestFromOneself(t *testing.T) { // P17.1: nothing says that a source may not have the vault's own name
	w := newWorld()
	v := newVault(t)
	h := api.Header{From: "away", To: "away", Seq: 2, Stamps: stamps("heads/a", w.c, 2)}
	r, err := Import(v, "away", []byte("k"), exampleRules, w.brings(h, w.b, w.t, w.c))
	answers(t, "from oneself", err, api.OK)
	if want := (api.Result{From: "away", Seq: 2, Objects: 3, Refs: rowsOf("far/home/a", none, w.c, api.HowMade)}); !sameResult(r, want) {
		t.Errorf("%s, want %s", told(r), told(want))
	}
	accepts(t, "from oneself", v, "away", 2)
}

func TestPrerequisites(t *testing.T) { // P17.1, step 3
	w := newWorld()
	v := newVault(t)
	has(t, v, api.Txn{Objects: w.encs(w.b, w.t, w.c)})
	for _, c := range []struct{ basis, missing []api.ID }{
		{nil, nil},
		{ids(w.c), nil},
		{ids(w.b, w.t, w.c), nil},
		{ids(w.d), ids(w.d)}, // that the bundle brings it is no matter
		{ids(w.c, w.d), ids(w.d)},
		{ids(none), ids(none)},
		{ids(all(255), w.b, none, w.t, all(1), w.d), sorted(none, all(1), w.d, all(255))},
		{many(256), many(256)},
	} {
		b := w.brings(head(5, c.basis, stamps("heads/main", w.d, 5)), w.d)
		if c.missing == nil {
			v := newVault(t)
			has(t, v, api.Txn{Objects: w.encs(w.b, w.t, w.c)})
			comes(t, "all are there", v, exampleRules, b, result(5, 1, false, "far/home/main", none, w.d, api.HowMade))
			continue
		}
		refuses(t, "some are not there", v, exampleRules, b, api.ErrEntryMissing, c.missing...)
	}
}

// many tells so many ids of nothing, sorted.
func many(n int) []api.ID {
	var list []api.ID
	for i := range n {
		id := all(3)
		id[0], id[1] = byte(i>>8), byte(i)
		list = append(list, id)
	}
	return list
}

func TestObjects(t *testing.T) { // P17.1: how many are new, whatever the stamps are; all of them come in
	w := newWorld()
	other := put(w.s, blob("other"))
	v := newVault(t)
	comes(t, "an empty one", v, exampleRules, w.brings(head(1, nil, nil)), result(1, 0, false))
	if len(v.Ids()) != 0 || v.Number() != 1 {
		t.Errorf("behind an empty one: %s", seen(v))
	}
	comes(t, "a part", v, exampleRules, w.brings(head(2, nil, nil), w.b, other), result(2, 2, false))
	comes(t, "the rest with it", v, exampleRules, w.brings(head(3, nil, nil), w.b, w.t, w.c, w.d, other), result(3, 3, false))
	comes(t, "again", v, exampleRules, w.brings(head(3, nil, nil), w.b, w.t, w.c, w.d, other), result(3, 0, true))
	comes(t, "the number again, with another pack", v, exampleRules, w.brings(head(3, nil, nil), w.on("new", w.d)), result(3, 1, true))
	if want := sorted(w.b, other, w.t, w.c, w.d, w.on("new", w.d)); !slices.Equal(v.Ids(), want) {
		t.Errorf("%.4x, want %.4x", v.Ids(), want)
	}
}
