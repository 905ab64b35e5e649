package ledger

import (
	"fmt"
	"slices"
	"strings"
	"testing"

	"satchel/api"
	"satchel/store"
)

var longName = strings.Repeat("n", api.MaxName)

// change is one thing done to a ledger.
type change struct {
	what string
	do   func(l *api.Ledger)
}

// wrongs tells the things that make small a ledger that may not be, each alone.
func wrongs() []change {
	return []change{
		{"no source", func(l *api.Ledger) { l.From = "" }},
		{"a long source", func(l *api.Ledger) { l.From = longName + "n" }},
		{"no destination", func(l *api.Ledger) { l.To = "" }},
		{"a long destination", func(l *api.Ledger) { l.To = longName + "n" }},
		{"the next is 0", func(l *api.Ledger) { *l = api.Ledger{From: "a", To: "b"} }},
		{"the next is 0, with a bundle", func(l *api.Ledger) { l.Next = 0 }},
		{"the next is too great", func(l *api.Ledger) { l.Next = api.MaxSeq + 2 }},
		{"the next is far too great", func(l *api.Ledger) { l.Next = 1<<64 - 1 }},
		{"the next is a bundle's", func(l *api.Ledger) { l.Next, l.Refs[2].Seq = 299, 298 }},
		{"the next is below a bundle's", func(l *api.Ledger) { l.Next, l.Refs = 200, nil }},
		{"the next is a stamp's", func(l *api.Ledger) { l.Next, l.Sent = 299, nil }},
		{"the next is below a stamp's", func(l *api.Ledger) { l.Next, l.Sent = 250, nil }},
		{"a bundle 0", func(l *api.Ledger) { l.Sent[0].Seq = 0 }},
		{"bundles with one number", func(l *api.Ledger) { l.Sent[1].Seq = 7 }},
		{"bundles that fall", func(l *api.Ledger) { l.Sent[0].Seq = 10 }},
		{"the last bundles fall", func(l *api.Ledger) { l.Sent[1].Seq = 299 }},
		{"too many bundles", func(l *api.Ledger) {
			for i := range uint64(api.MaxSent + 1) {
				l.Sent = append(l.Sent[:i:i], api.Sent{Seq: i + 1})
			}
		}},
		{"tips that fall", func(l *api.Ledger) { l.Sent[0].Tips = []api.ID{all(2), all(1)} }},
		{"a tip twice", func(l *api.Ledger) { l.Sent[0].Tips = []api.ID{all(1), all(1)} }},
		{"the zero tip", func(l *api.Ledger) { l.Sent[0].Tips = []api.ID{none} }},
		{"the zero tip and another one, of the last", func(l *api.Ledger) { l.Sent[2].Tips = []api.ID{none, all(1)} }},
		{"too many tips", func(l *api.Ledger) { l.Sent[1].Tips = rowOf(api.MaxRefs + 1) }},
		{"sure ids that fall", func(l *api.Ledger) { l.Sure = []api.ID{all(2), all(1)} }},
		{"a sure id twice", func(l *api.Ledger) { l.Sure = []api.ID{all(1), all(2), all(2)} }},
		{"the zero id is sure", func(l *api.Ledger) { l.Sure = []api.ID{none} }},
		{"too many sure ids", func(l *api.Ledger) { l.Sure = rowOf(api.MaxBasis + 1) }},
		{"lean ids that fall", func(l *api.Ledger) { l.Lean = []api.ID{all(2), all(1)} }},
		{"a lean id twice", func(l *api.Ledger) { l.Lean = []api.ID{all(1), all(2), all(2)} }},
		{"the zero id is lean", func(l *api.Ledger) { l.Lean = []api.ID{none, all(1)} }},
		{"too many lean ids", func(l *api.Ledger) { l.Lean = rowOf(api.MaxBasis + 1) }},
		{"names that fall", func(l *api.Ledger) { l.Refs[0].Name = "yy" }},
		{"a name twice", func(l *api.Ledger) { l.Refs[0].Name = "y" }},
		{"no name", func(l *api.Ledger) { l.Refs[0].Name = "" }},
		{"a long name", func(l *api.Ledger) { l.Refs[2].Name = "z" + longName }},
		{"a stamp of number 0", func(l *api.Ledger) { l.Refs[1].Seq = 0 }},
		{"a stamp of the next number", func(l *api.Ledger) { l.Refs[1].Seq = 300 }},
		{"a stamp of a great number", func(l *api.Ledger) { l.Refs[1].Seq = 1<<64 - 1 }},
		{"too many stamps", func(l *api.Ledger) { l.Refs = manyStamps(api.MaxStamps+1, api.MaxRefs) }},
		{"too many that are not gone", func(l *api.Ledger) { l.Refs = manyStamps(api.MaxStamps, api.MaxRefs+1) }},
	}
}

// manyStamps tells so many stamps, of which the last ones are not gone.
func manyStamps(n, there int) []api.Stamp {
	var list []api.Stamp
	for i := range n {
		list = append(list, api.Stamp{Name: fmt.Sprintf("r%04d", i), Seq: 1})
		if i >= n-there {
			list[i].ID = all(1)
		}
	}
	return list
}

// rights tells changes of small behind which it still may be.
func rights() []change {
	return []change{
		{"nothing", func(l *api.Ledger) {}},
		{"names of one byte", func(l *api.Ledger) { l.From, l.To = "a", "\xff" }},
		{"the longest names", func(l *api.Ledger) { l.From, l.To = longName, longName }},
		{"one name", func(l *api.Ledger) { l.From = l.To }},
		{"the next is 1", func(l *api.Ledger) { *l = api.Ledger{From: "a", To: "b", Next: 1} }},
		{"the next is 1, with ids", func(l *api.Ledger) { l.Next, l.Sent, l.Refs = 1, nil, nil }},
		{"the next is 2, with all", func(l *api.Ledger) { l.Next, l.Sent, l.Refs = 2, []api.Sent{{Seq: 1}}, stamp("x", all(1), 1) }},
		{"the last number", func(l *api.Ledger) { l.Next = api.MaxSeq }},
		{"behind the last number", func(l *api.Ledger) { *l = fullest() }},
		{"as many bundles as may be", func(l *api.Ledger) {
			for i := range uint64(api.MaxSent) {
				l.Sent = append(l.Sent[:i:i], api.Sent{Seq: i + 1})
			}
		}},
		{"as many tips as may be", func(l *api.Ledger) { l.Sent[1].Tips = rowOf(api.MaxRefs) }},
		{"as many ids as may be", func(l *api.Ledger) { l.Sure, l.Lean = rowOf(api.MaxBasis), rowOf(api.MaxBasis) }},
		{"as many stamps as may be", func(l *api.Ledger) { l.Refs = manyStamps(api.MaxStamps, api.MaxRefs) }},
		{"all refs gone", func(l *api.Ledger) { l.Refs = manyStamps(api.MaxStamps, 0) }},
		{"names of any bytes", func(l *api.Ledger) {
			l.Refs = stamp("\x00", all(1), 1, "\n ", none, 1, "a*", all(2), 1, "\xff", all(1), 1)
		}},
		{"a name and its continuation", func(l *api.Ledger) { l.Refs = stamp("a", all(1), 1, "a\x00", all(1), 1) }},
	}
}

// calls tells the error of each call that is handed a ledger, the rest being such as it takes.
func calls(l api.Ledger, s *store.Store) map[string]error {
	list := map[string]error{}
	_, _, list["Plan"] = Plan(l, s, ref("x", all(1)), false)
	_, list["Sent"] = Sent(l, s, api.Header{From: l.From, To: l.To, Seq: l.Next})
	_, list["Lost"] = Lost(l, s, 1)
	_, list["Confirm"] = Confirm(l, s, []byte("k"), seal(paper(l.From, l.To), "k"))
	_, list["Encode"] = Encode(l)
	return list
}

// refusedOtherwise tells the same of calls that would be refused anyway, for each reason.
func refusedOtherwise(l api.Ledger, s *store.Store) map[string]error {
	list := map[string]error{}
	_, _, list["Plan of many refs"] = Plan(l, s, manyRefs(api.MaxRefs+1), false)
	_, _, list["Plan of many refs, one of them odd"] = Plan(l, s, append(manyRefs(api.MaxRefs+1), api.Ref{}), true)
	_, _, list["Plan of no name"] = Plan(l, s, ref("", all(1)), false)
	_, list["Sent of another source"] = Sent(l, s, api.Header{From: l.From + "x", To: l.To, Seq: l.Next})
	_, list["Sent of another destination"] = Sent(l, s, api.Header{From: l.From, To: l.To + "x", Seq: l.Next})
	_, list["Sent of another number"] = Sent(l, s, api.Header{From: l.From, To: l.To, Seq: l.Next - 1})
	_, list["Sent of all that is wrong"] = Sent(l, s, api.Header{Stamps: make([]api.Stamp, 1)})
	_, list["Lost of 0"] = Lost(l, s, 0)
	_, list["Lost of the next"] = Lost(l, s, l.Next)
	_, list["Confirm of nothing"] = Confirm(l, s, nil, nil)
	_, list["Confirm of another's"] = Confirm(l, s, nil, seal(paper("x", "y"), ""))
	_, list["Confirm of a number"] = Confirm(l, s, nil, seal(paper(l.From, l.To, api.MaxSeq, api.MaxSeq), ""))
	return list
}

func manyRefs(n int) []api.Ref {
	var list []api.Ref
	for i := range n {
		list = append(list, api.Ref{Name: fmt.Sprintf("r%04d", i), ID: all(1)})
	}
	return list
}

func TestLedgersThatMayNotBe(t *testing.T) { // P16.1: ErrLedgerForm ahead of everything else
	s := newWorld().s
	for _, wrong := range wrongs() {
		l := small()
		wrong.do(&l)
		was := deep(l)
		for what, err := range calls(l, s) {
			answers(t, wrong.what+": "+what, err, api.ErrLedgerForm)
		}
		for what, err := range refusedOtherwise(l, s) {
			answers(t, wrong.what+": "+what, err, api.ErrLedgerForm)
		}
		x, err := Parse(lay(l))
		tells(t, wrong.what+": Parse", x, err, api.Ledger{}, api.ErrLedgerForm)
		if !same(l, was) {
			t.Errorf("%s: the ledger is changed", wrong.what)
		}
	}
}

func TestWrongsTogether(t *testing.T) { // P16.1
	s := newWorld().s
	list := wrongs()
	for i := range list {
		for k := range i {
			l := small()
			if !both(&l, list[i], list[k]) || goodLedger(l) {
				continue
			}
			for what, err := range calls(l, s) {
				answers(t, list[i].what+", "+list[k].what+": "+what, err, api.ErrLedgerForm)
			}
		}
	}
}

// both does two things to a ledger, unless the first one takes away what the second one is done to. (They may undo one another.)
func both(l *api.Ledger, a, b change) (done bool) {
	defer func() { recover() }()
	a.do(l)
	b.do(l)
	return true
}

func TestLedgersThatMayBe(t *testing.T) { // P16.1
	s := newWorld().s
	for _, right := range rights() {
		l := small()
		right.do(&l)
		for what, err := range calls(l, s) {
			want := api.OK
			switch {
			case l.Next > api.MaxSeq && (what == "Plan" || what == "Sent"), l.Next == 1 && what == "Lost":
				want = api.ErrLedgerSeq
			case what == "Plan" && len(l.Refs) == api.MaxStamps && l.Next <= api.MaxSeq:
				want = api.ErrLedgerMany
			}
			answers(t, right.what+": "+what, err, want)
		}
		b, err := Encode(l)
		answers(t, right.what, err, api.OK)
		x, err := Parse(b)
		tells(t, right.what+": Parse", x, err, l, api.OK)
	}
}

func TestSpareRoomOfALedgerDoesNotCount(t *testing.T) { // P16.1, R2
	l := small()
	l.Sent = append(l.Sent, api.Sent{})[:3]
	l.Sent[0].Tips = append(l.Sent[0].Tips, none)[:2]
	l.Sure, l.Lean, l.Refs = append(l.Sure, none)[:2], append(l.Lean, none)[:2], append(l.Refs, api.Stamp{})[:3]
	for what, err := range calls(l, newWorld().s) {
		answers(t, what, err, api.OK)
	}
}

func TestEmpty(t *testing.T) { // P16.2
	for _, c := range []struct {
		from, to string
		n        api.Errno
	}{
		{"home", "away", api.OK}, {"a", "a", api.OK}, {longName, longName, api.OK}, {"\x00", "\xff/..", api.OK},
		{"", "x", api.ErrLedgerDest}, {"x", "", api.ErrLedgerDest}, {"", "", api.ErrLedgerDest},
		{longName + "n", "x", api.ErrLedgerDest}, {"x", longName + "n", api.ErrLedgerDest}, {longName + "n", "", api.ErrLedgerDest},
	} {
		l, err := Empty(c.from, c.to)
		tells(t, fmt.Sprintf("Empty(%.5q, %.5q)", c.from, c.to), l, err, api.Ledger{From: c.from, To: c.to, Next: 1}, c.n)
	}
}

func TestWhatMayBeIsNoneOfTheOtherLayersRules(t *testing.T) { // the chapter's head: a name has 1 to MaxName bytes, and nothing else is asked of it
	s := newWorld().s
	l, err := Empty("Home Sweet Home", "far, far/away")
	answers(t, "Empty", err, api.OK)
	for _, name := range []string{"a b", "heads/../x", "*", "HEAD", "\xff\x00", longName} {
		next, h := sends(t, l, s, ref(name, all(1)))
		if !slices.Equal(h.Stamps, stamp(name, all(1), 1)) || !slices.Equal(next.Refs, h.Stamps) {
			t.Errorf("%q: %v", name, h)
		}
	}
}
