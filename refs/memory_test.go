package refs

import (
	"fmt"
	"math/rand"
	"slices"
	"strings"
	"testing"
	"time"

	"satchel/api"
	"satchel/object"
)

// roomy tells a copy of a list with spare room behind its end, and the whole of it.
func roomy[T any](list []T, behind ...T) (given, whole []T) {
	whole = slices.Concat(list, behind)
	return whole[:len(list)], whole
}

// spoil writes over a list and the spare room behind its end.
func spoil[T any](list []T, item T) {
	list = list[:cap(list)]
	for i := range list {
		list[i] = item
	}
}

func TestMemoryOfRules(t *testing.T) { // P14.9, R2
	text := "heads/*:far/x/* +tags/*:tags/* ^heads/tmp*"
	want, _ := ParseRules(text)
	one, _ := ParseRules(text)
	two, _ := ParseRules(text)
	spoil(one, force("spoilt", "spoilt"))
	if !slices.Equal(two, want) {
		t.Errorf("two answers share memory: %v", two)
	}
	rules, wholeRules := roomy(want, force("*", "all/*"), not("*"))
	names, wholeNames := roomy([]string{"tags/v", "heads/z", "heads/a", "tags/v"}, "heads/tmp", "spare")
	wasRules, wasNames := slices.Clone(wholeRules), slices.Clone(wholeNames)
	answers := func() string {
		target, forced, ok := Map(rules, "tags/v")
		left, _, _ := Map(rules, "other")
		from, back := Unmap(rules, "far/x/a")
		clash, clashed := Clash(slices.Concat([]api.Rule{rule("heads/z", "tags/v")}, rules), names)
		bare, none := Clash(rules, names)
		return fmt.Sprintf("%s %v %v, %q, %s %v, %s %v, %q %v", target, forced, ok, left, from, back, clash, clashed, bare, none)
	}
	const told = `tags/v true true, "", heads/a true, tags/v true, "" false`
	for range 2 {
		if got := answers(); got != told {
			t.Errorf("%s, want %s", got, told)
		}
	}
	if !slices.Equal(wholeRules, wasRules) || !slices.Equal(wholeNames, wasNames) {
		t.Errorf("what is handed in, or the room behind it, is changed: %v, %q", wholeRules, wholeNames)
	}
	spoil(wholeRules[len(rules):], rule("heads/*", "tags/*"))
	spoil(wholeNames[len(names):], "heads/v")
	if got := answers(); got != told {
		t.Errorf("spare room is looked at: %s, want %s", got, told)
	}
}

func TestMemoryOfStamps(t *testing.T) { // P14.9, R2
	have, wholeHave := roomy([]api.Stamp{stamp("b", 2, all(1)), stamp("a", 1, all(1)), stamp("b", 1, all(9))}, stamp("a", 9, all(9)), stamp("0", 9, all(9)))
	more, wholeMore := roomy([]api.Stamp{stamp("c", 1, all(3)), stamp("a", 1, all(2))}, stamp("b", 9, all(9)), stamp("1", 9, all(9)))
	wasHave, wasMore := slices.Clone(wholeHave), slices.Clone(wholeMore)
	for _, lists := range [][3][]api.Stamp{{have, more, {stamp("a", 1, all(2)), stamp("b", 2, all(1)), stamp("c", 1, all(3))}}, {have, nil, {stamp("a", 1, all(1)), stamp("b", 2, all(1))}}, {nil, more, {stamp("a", 1, all(2)), stamp("c", 1, all(3))}}, {more[1:], more[:1], {stamp("a", 1, all(2)), stamp("c", 1, all(3))}}, {more, more, {stamp("a", 1, all(2)), stamp("c", 1, all(3))}}} {
		one, two := Merge(lists[0], lists[1]), Merge(lists[0], lists[1])
		spoil(one, stamp("spoilt", 99, all(99)))
		if !slices.Equal(two, lists[2]) {
			t.Errorf("two answers share memory: %v, want %v", two, lists[2])
		}
		_ = append(two, stamp("behind", 1, all(1)))
		if !slices.Equal(wholeHave, wasHave) || !slices.Equal(wholeMore, wasMore) {
			t.Fatalf("what is handed in, or the room behind it, is changed: %v, %v", wholeHave, wholeMore)
		}
	}
	one := Merge(have, more)
	want := slices.Clone(one)
	spoil(wholeHave, stamp("spoilt", 99, all(99)))
	spoil(wholeMore, stamp("spoilt", 99, all(99)))
	if !slices.Equal(one, want) {
		t.Errorf("what is handed in is shared: %v", one)
	}
	// A list that is sorted already, and one of a single stamp, are copied, too.
	single := []api.Stamp{stamp("a", 1, all(1))}
	for _, got := range [][]api.Stamp{Merge(single, nil), Merge(nil, single), Merge(single, single), Merge(single, []api.Stamp{})} {
		spoil(got, stamp("spoilt", 99, all(99)))
		if single[0] != stamp("a", 1, all(1)) {
			t.Fatal("an answer shares memory with what is handed in")
		}
	}
}

func TestMemoryOfResolve(t *testing.T) { // P14.9, R2: the store isn't changed, nor are the refs
	x := newExample(t)
	refs, whole := roomy(x.refs, api.Ref{Name: "spare", ID: x.c0}, api.Ref{Name: "heads/spare", ID: x.c0})
	was, ids := slices.Clone(whole), x.s.Ids()
	x.refs = refs
	for range 2 {
		x.means(x.blob, "main:a/f")
		x.means(x.c1, "v^{}", "main~")
		x.means(x.c2, "HEAD")
		x.fails(api.ErrRefsStep, "main~9", "main:b")
		x.fails(api.ErrRefsNone, "spare", "nope")
		x.fails(api.ErrRefsText, "~", "main~01")
	}
	if !slices.Equal(whole, was) {
		t.Errorf("the refs, or the room behind them, are changed: %v", whole)
	}
	if !slices.Equal(x.s.Ids(), ids) {
		t.Error("the store is changed")
	}
	for id, enc := range x.s.All() {
		if object.Id(enc) != id {
			t.Errorf("%.4x is changed", id)
		}
	}
	// Nothing is kept from call to call.
	refs[0].ID, refs[1].Name = x.c0, "tags/w"
	x.means(x.c0, "HEAD", "main", "main^{commit}")
	x.means(x.v, "w")
	x.fails(api.ErrRefsNone, "v")
	x.s.Remove(x.c0)
	x.means(x.c0, "main")
	x.fails(api.ErrRefsStep, "main~0")
	x.s.Clear()
	x.fails(api.ErrRefsStep, "w^{}")
}

// ends looks whether something is done in a time that is generous.
func ends(t *testing.T, what string, do func()) {
	t.Helper()
	begin := time.Now()
	do()
	if took := time.Since(begin); took > time.Minute {
		t.Errorf("%s: %v", what, took)
	}
}

func TestCallsEndWhateverTheText(t *testing.T) { // P14.9, R1: texts of any bytes
	r := rand.New(rand.NewSource(7))
	x := newExample(t)
	any := func() string {
		b := make([]byte, r.Intn(12))
		for i := range b {
			b[i] = byte(r.Intn(256))
			if r.Intn(2) == 0 {
				b[i] = "*:+^~{}/.- \na0HEAD"[r.Intn(18)]
			}
		}
		return string(b)
	}
	for range 50000 {
		rules := []api.Rule{{Src: any(), Dst: any(), Force: r.Intn(2) == 0}, {Src: any(), Dst: any(), Not: r.Intn(2) == 0}, rule("*", any()), rule(any(), "*")}
		text := any()
		if (Check(text) == api.OK) != isGood(text) {
			t.Errorf("Check(%q): %v", text, Check(text))
		}
		if got, e := ParseRules(text); e != api.OK && (e != api.ErrRefsSpec || len(got) > 0) {
			t.Errorf("ParseRules(%q): %v, %v", text, got, e)
		}
		if target, forced, ok := Map(rules, text); !ok && (target != "" || forced) || ok && Check(target) != api.OK {
			t.Errorf("Map(%v, %q): %q, %v, %v", rules, text, target, forced, ok)
		}
		if name, ok := Unmap(rules, text); (name != "") != ok || ok && Check(name) != api.OK {
			t.Errorf("Unmap(%v, %q): %q, %v", rules, text, name, ok)
		}
		if target, ok := Clash(rules, []string{text, any(), any()}); (target != "") != ok || ok && Check(target) != api.OK {
			t.Errorf("Clash(%v, %q ..): %q, %v", rules, text, target, ok)
		}
		x.refs[1].Name, x.head = any(), any()
		if id, e := Resolve(x.s, x.refs, x.head, text); (e == api.OK) != (id != (api.ID{})) {
			t.Errorf("Resolve(%q): %.4x, %v", text, id, e)
		}
	}
}

func TestCallsEndWhateverTheLength(t *testing.T) { // P14.9, R1
	x := newExample(t)
	const n = 1 << 18
	for _, sign := range []string{"a", "/", ".", "a.", "a/", "*", "^", "~", ":", "+", "{", "^{}", "^{", "^{tag}", "~0", "~9", "0", "é", "\xff", " ", "\n", "a:b ", "^a\n"} {
		long := strings.Repeat(sign, n/len(sign))
		ends(t, "many of "+sign, func() {
			Check(long)
			ParseRules(long)
			rules := []api.Rule{rule(long, long), not(long), rule("*"+long, long+"*"), rule(long+"*", "*"+long), rule("*", long), rule("*", "*"+long), rule("*", "*")}
			mapsTo(t, rules, long, "", false)
			mapsTo(t, rules, "b", "b", false)
			unmapsTo(t, rules, long, "")
			unmapsTo(t, rules, "b", "b")
			clashes(t, rules, []string{long, "b", long + "b", "b" + long}, "")
			for _, base := range []string{"", "main", "v", "nope", "main:"} {
				Resolve(x.s, []api.Ref{{Name: long, ID: x.c0}}, long, base+long)
				Resolve(x.s, x.refs, x.head, base+long)
			}
		})
	}
	ends(t, "long lists", func() {
		many := slices.Repeat([]api.Rule{rule("a*", "b"), not("b")}, 1<<17)
		mapsTo(t, many, "ab", "", false)
		stamps := slices.Repeat([]api.Stamp{stamp("b", 1, all(1)), stamp("a", 1, all(2)), stamp("a", 1, all(3))}, 1<<17)
		merges(t, stamps, stamps, stamp("a", 1, all(3)), stamp("b", 1, all(1)))
		clashes(t, three(), slices.Repeat([]string{"heads/a", "tags/a"}, 1<<17), "")
		x.refs = slices.Repeat(x.refs, 1<<17)
		x.fails(api.ErrRefsNone, "nope")
	})
}

func TestResolveLongHistories(t *testing.T) { // P14.9: as many commits and tags as a store holds, one behind the other
	w := newWorld(t)
	first := w.commit(w.tree(), "")
	id := first
	for range 4000 {
		id = w.commit(all(9), "", id)
	}
	w.ref("heads/line", id)
	tag, kind := id, api.KindCommit
	for range 4000 {
		tag, kind = w.tag(tag, kind), api.KindTag
	}
	w.ref("tags/t", tag)
	ends(t, "long histories", func() {
		w.means(first, "line~4000", "t~4000", "t"+strings.Repeat("~", 4000), "t"+strings.Repeat("^", 4000)+strings.Repeat("~0", 10000), "t^{}~2000^{commit}~2000")
		w.means(tag, "t"+strings.Repeat("^{tag}", 10000))
		w.means(id, "t"+strings.Repeat("^{}", 10000), "t^{}")
		w.fails(api.ErrRefsStep, "t~4001", "line~999999", "t"+strings.Repeat("~", 4001)+strings.Repeat("~999999", 10000))
	})
	w.plant(all(1), aCommit(all(9), "", all(2)))
	w.plant(all(2), aCommit(all(9), "", all(1)))
	w.ref("ring", all(1))
	ends(t, "a ring", func() {
		w.means(all(1), "ring", "ring~2", "ring~100000", "ring~~")
		w.means(all(2), "ring~", "ring~999999", "ring^^^")
		w.fails(api.ErrRefsStep, "ring^2", "ring^{tree}")
	})
}
