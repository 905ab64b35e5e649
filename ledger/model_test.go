package ledger

import (
	"bytes"
	"encoding/binary"
	"fmt"
	"math/rand"
	"slices"
	"strings"
	"testing"

	"satchel/api"
	"satchel/object"
	"satchel/store"
)

// goodLedger tells whether a ledger may be, by the words of P16.1.
func goodLedger(l api.Ledger) bool {
	name := func(s string) bool { return len(s) >= 1 && len(s) <= 255 }
	ids := func(list []api.ID) bool {
		good := len(list) <= 256
		for i, id := range list {
			good = good && id != none && (i == 0 || bytes.Compare(list[i-1][:], id[:]) < 0)
		}
		return good
	}
	good := name(l.From) && name(l.To) && l.Next != 0 && l.Next-1 <= 1<<40 && len(l.Sent) <= 64 && ids(l.Sure) && ids(l.Lean) && len(l.Refs) <= 512
	for i, x := range l.Sent {
		good = good && x.Seq > 0 && x.Seq < l.Next && ids(x.Tips) && (i == 0 || l.Sent[i-1].Seq < x.Seq)
	}
	there := 0
	for i, stamp := range l.Refs {
		good = good && name(stamp.Name) && stamp.Seq > 0 && stamp.Seq < l.Next && (i == 0 || l.Refs[i-1].Name < stamp.Name)
		if stamp.ID != none {
			there++
		}
	}
	return good && there <= 256
}

// confirmError tells what Confirm answers to a sealed text, by the words of P16.7 and P16.9: each text is read by laying it again.
func confirmError(l api.Ledger, body []byte) api.Errno {
	rest, good := bytes.CutPrefix(body, []byte("RECEIPT1"))
	text := func() string {
		n, size := binary.Uvarint(rest)
		if size <= 0 || n > uint64(len(rest)-size) {
			good = false
			return ""
		}
		text := string(rest[size : size+int(n)])
		rest = rest[size+int(n):]
		return text
	}
	number := func() uint64 {
		n, size := binary.Uvarint(rest)
		rest = rest[max(size, 0):]
		return n
	}
	from, to := text(), text()
	var numbers, ranges []uint64
	count := number()
	for i := uint64(0); i < count && i < 300; i++ {
		ranges = append(ranges, number(), number())
		numbers = append(numbers, ranges[2*i], ranges[2*i+1])
	}
	good = good && count <= 256 && bytes.Equal(paper(from, to, ranges...), body) && len(from)*len(to) > 0 && len(from) < 256 && len(to) < 256
	for i, n := range numbers {
		// A row may be one number; the next row leaves one out at least.
		good = good && n > 0 && n <= 1<<40 && (i == 0 || i%2 == 1 && n >= numbers[i-1] || i%2 == 0 && n > numbers[i-1]+1)
	}
	switch {
	case !good:
		return api.ErrLedgerReceipt
	case from != l.From || to != l.To:
		return api.ErrLedgerDest
	case len(numbers) > 0 && numbers[len(numbers)-1] >= l.Next:
		return api.ErrLedgerSeq
	}
	return api.OK
}

// model is what a store's objects name, and the chapter's words on it in the plainest way.
type model map[api.ID][]api.ID

func modelOf(s *store.Store) model {
	m := model{}
	for id, enc := range s.All() {
		o, _ := object.Parse(enc)
		m[id] = []api.ID{}
		for _, entry := range o.Entries {
			m[id] = append(m[id], entry.ID)
		}
		switch o.Kind {
		case api.KindCommit:
			m[id] = append(append(m[id], o.Commit.Tree), o.Commit.Parents...)
		case api.KindTag:
			m[id] = append(m[id], o.Tag.Target)
		}
	}
	return m
}

// reach tells all that can be reached from an id, by one child at least or itself, too.
func (m model) reach(id api.ID) map[api.ID]int {
	found := map[api.ID]int{}
	var from func(api.ID)
	from = func(id api.ID) {
		for _, child := range m[id] {
			if found[child]++; found[child] == 1 {
				from(child)
			}
		}
	}
	from(id)
	return found
}

func (m model) greatest(ids []api.ID) []api.ID {
	ids = slices.DeleteFunc(sorted(ids...), func(id api.ID) bool { return id == none })
	var list []api.ID
	for _, x := range ids {
		if !slices.ContainsFunc(ids, func(y api.ID) bool { return x != y && m.reach(y)[x] > 0 }) {
			list = append(list, x)
		}
	}
	for len(list) > 256 {
		list = list[1:]
	}
	return list
}

func (m model) whole(ids []api.ID) []api.ID {
	return slices.DeleteFunc(sorted(ids...), func(id api.ID) bool {
		for x := range m.reach(id) {
			if _, there := m[x]; !there {
				return true
			}
		}
		_, there := m[id]
		return !there
	})
}

// firsts tells the refs of each name that counts, sorted by name.
func firsts(refs []api.Ref) []api.Ref {
	var list []api.Ref
	for _, x := range refs {
		if !slices.ContainsFunc(list, func(y api.Ref) bool { return y.Name == x.Name }) {
			list = append(list, x)
		}
	}
	slices.SortFunc(list, func(a, b api.Ref) int { return strings.Compare(a.Name, b.Name) })
	return list
}

func (m model) plan(l api.Ledger, refs []api.Ref, sure bool) (api.Header, api.Errno) {
	if !goodLedger(l) {
		return api.Header{}, api.ErrLedgerForm
	}
	refs = firsts(refs)
	if len(refs) > 256 {
		return api.Header{}, api.ErrLedgerMany
	}
	for _, x := range refs {
		if x.ID == none || x.Name == "" || len(x.Name) > 255 {
			return api.Header{}, api.ErrLedgerForm
		}
	}
	if l.Next > 1<<40 {
		return api.Header{}, api.ErrLedgerSeq
	}
	for _, old := range l.Refs {
		if !slices.ContainsFunc(refs, func(x api.Ref) bool { return x.Name == old.Name }) {
			refs = append(refs, api.Ref{Name: old.Name})
		}
	}
	h := api.Header{From: l.From, To: l.To, Seq: l.Next, Basis: m.whole(l.Lean)}
	if sure {
		h.Basis = m.whole(l.Sure)
	}
	for _, x := range firsts(refs) {
		number := l.Next
		for _, old := range l.Refs {
			if old.Name == x.Name && old.ID == x.ID {
				number = old.Seq
			}
		}
		h.Stamps = append(h.Stamps, api.Stamp{Name: x.Name, ID: x.ID, Seq: number})
	}
	if len(h.Stamps) > 512 {
		return api.Header{}, api.ErrLedgerMany
	}
	return h, api.OK
}

func (m model) sent(l api.Ledger, h api.Header) (api.Ledger, api.Errno) {
	switch {
	case !goodLedger(l):
		return api.Ledger{}, api.ErrLedgerForm
	case h.From != l.From, h.To != l.To:
		return api.Ledger{}, api.ErrLedgerDest
	case h.Seq != l.Next, h.Seq > 1<<40:
		return api.Ledger{}, api.ErrLedgerSeq
	}
	x := deep(l)
	x.Next, x.Refs = l.Next+1, nil
	var refs []api.Ref
	for _, stamp := range h.Stamps {
		refs = append(refs, api.Ref{Name: stamp.Name})
	}
	var tips []api.ID
	for _, ref := range firsts(refs) {
		at := slices.IndexFunc(h.Stamps, func(stamp api.Stamp) bool { return stamp.Name == ref.Name })
		x.Refs = append(x.Refs, h.Stamps[at])
		if h.Stamps[at].ID != none {
			tips = append(tips, h.Stamps[at].ID)
		}
	}
	x.Sent = append(x.Sent, api.Sent{Seq: h.Seq, Tips: sorted(tips...)})
	for len(x.Sent) > 64 {
		x.Sent = x.Sent[1:]
	}
	x.Lean = m.greatest(append(slices.Clone(l.Lean), tips...))
	if !goodLedger(x) {
		return api.Ledger{}, api.ErrLedgerForm
	}
	return x, api.OK
}

func (m model) lost(l api.Ledger, number uint64) (api.Ledger, api.Errno) {
	switch {
	case !goodLedger(l):
		return api.Ledger{}, api.ErrLedgerForm
	case number == 0 || number >= l.Next:
		return api.Ledger{}, api.ErrLedgerSeq
	}
	x := deep(l)
	x.Sent = nil
	lean := slices.Clone(l.Sure)
	for _, bundle := range l.Sent {
		if bundle.Seq < number {
			x.Sent = append(x.Sent, bundle)
			lean = append(lean, bundle.Tips...)
		}
	}
	x.Lean = m.greatest(lean)
	return x, api.OK
}

func (m model) confirm(l api.Ledger, key string, receipt []byte) (api.Ledger, api.Errno) {
	if !goodLedger(l) {
		return api.Ledger{}, api.ErrLedgerForm
	}
	body := receipt[:max(0, len(receipt)-32)]
	if !bytes.Equal(seal(body, key), receipt) {
		return api.Ledger{}, api.ErrLedgerReceipt
	}
	if e := confirmError(l, body); e != api.OK {
		return api.Ledger{}, e
	}
	rest := body[len(paper(l.From, l.To))-1:]
	var numbers []uint64
	for len(rest) > 0 {
		n, size := binary.Uvarint(rest)
		numbers, rest = append(numbers, n), rest[size:]
	}
	x := deep(l)
	x.Sent = nil
	sure := slices.Clone(l.Sure)
	for _, bundle := range l.Sent {
		told := false
		for i := 1; i < len(numbers); i += 2 {
			told = told || numbers[i] <= bundle.Seq && bundle.Seq <= numbers[i+1]
		}
		if told {
			sure = append(sure, bundle.Tips...)
		} else {
			x.Sent = append(x.Sent, bundle)
		}
	}
	x.Sure = m.greatest(sure)
	x.Lean = m.greatest(append(slices.Clone(l.Lean), x.Sure...))
	return x, api.OK
}

// drawn is a source and its ledger, worked on by drawn calls.
type drawn struct {
	r   *rand.Rand
	s   *store.Store
	ids []api.ID // of all objects that there were ever, and of some that there never were
	l   api.Ledger
	m   model // of the store as it is
}

func newDrawn(seed int64) *drawn {
	d := &drawn{r: rand.New(rand.NewSource(seed)), s: store.New(), ids: []api.ID{all(1), all(2)}}
	for range 3 {
		d.grow()
	}
	d.l = api.Ledger{From: "a", To: "b", Next: 1}
	if d.r.Intn(4) == 0 {
		d.l.Next = 1<<40 - uint64(d.r.Intn(30))
	}
	return d
}

// grow puts an object of what there is.
func (d *drawn) grow() {
	text := fmt.Sprint(len(d.ids))
	switch d.r.Intn(5) {
	case 0:
		d.ids = append(d.ids, put(d.s, blob(text)))
	case 1:
		d.ids = append(d.ids, put(d.s, tree(d.some(3)...)))
	case 2:
		d.ids = append(d.ids, put(d.s, tag(d.pick(), api.KindTree)))
	default:
		d.ids = append(d.ids, put(d.s, commit(d.pick(), text, d.some(2)...)))
	}
	d.m = modelOf(d.s)
}

func (d *drawn) pick() api.ID { return d.ids[d.r.Intn(len(d.ids))] }

func (d *drawn) some(n int) []api.ID {
	var list []api.ID
	for range d.r.Intn(n + 1) {
		list = append(list, d.pick())
	}
	return sorted(list...)
}

func (d *drawn) refs() []api.Ref {
	var list []api.Ref
	for range d.r.Intn(5) {
		list = append(list, api.Ref{Name: fmt.Sprint("r", d.r.Intn(5)), ID: d.pick()})
	}
	if d.r.Intn(20) == 0 {
		list = append(list, api.Ref{Name: strings.Repeat("x", d.r.Intn(2)*256)})
	}
	return list
}

func (d *drawn) number() uint64 {
	n := d.l.Next - uint64(d.r.Intn(12)) + 1
	if n > d.l.Next+1 || d.r.Intn(20) == 0 {
		n = uint64(d.r.Intn(3))
	}
	return n
}

func (d *drawn) receipt() []byte {
	to := "b"
	if d.r.Intn(12) == 0 {
		to = "c"
	}
	var numbers []uint64
	for range d.r.Intn(4) {
		if n := d.number(); n > 0 && (n < d.l.Next || d.r.Intn(8) == 0) {
			numbers = append(numbers, min(n, 1<<40))
		}
	}
	b, err := Slip("a", to, numbers, []byte("k"))
	if err != nil {
		panic(err)
	}
	if d.r.Intn(12) == 0 {
		b = b[:len(b)-1]
	}
	return b
}

// step makes one drawn call, and tells which error the model gave.
func (d *drawn) step(t *testing.T) (string, api.Errno) {
	t.Helper()
	given := d.l
	if d.r.Intn(30) == 0 {
		given.Lean = []api.ID{all(2), all(1)}
	}
	switch what := []string{"Plan", "Sent", "Sent", "Sent", "Lost", "Confirm", "Confirm", "store"}[d.r.Intn(8)]; what {
	case "Plan":
		refs, sure := d.refs(), d.r.Intn(2) == 0
		want, e := d.m.plan(given, refs, sure)
		h, basis, err := Plan(given, d.s, refs, sure)
		answers(t, what, err, e)
		if !sameHead(h, want) || !slices.Equal(basis, want.Basis) {
			t.Errorf("Plan: %.4x, want %.4x", h, want)
		}
		return what, e
	case "Sent":
		h, _ := d.m.plan(d.l, d.refs(), true)
		switch d.r.Intn(12) {
		case 0:
			h.To = "c"
		case 1:
			h.Seq++
		case 2:
			h.Stamps = append(h.Stamps, api.Stamp{Name: fmt.Sprint("r", d.r.Intn(5)), ID: d.pick(), Seq: uint64(d.r.Intn(2)) * d.l.Next})
			slices.Reverse(h.Stamps)
		}
		want, e := d.m.sent(given, h)
		x, err := Sent(given, d.s, h)
		d.turn(t, what, x, err, want, e)
		return what, e
	case "Lost":
		number := d.number()
		want, e := d.m.lost(given, number)
		x, err := Lost(given, d.s, number)
		if d.r.Intn(2) == 0 || e != api.OK {
			d.turn(t, what, x, err, want, e)
		} else {
			tells(t, what, x, err, want, e)
		}
		return what, e
	case "Confirm":
		b := d.receipt()
		want, e := d.m.confirm(given, "k", b)
		x, err := Confirm(given, d.s, []byte("k"), b)
		d.turn(t, what, x, err, want, e)
		return what, e
	}
	d.grow()
	if d.r.Intn(3) == 0 {
		d.s.Remove(d.pick())
		d.m = modelOf(d.s)
	}
	return "store", api.OK
}

// turn goes on with the ledger that a call answers.
func (d *drawn) turn(t *testing.T, what string, x api.Ledger, err error, want api.Ledger, e api.Errno) {
	t.Helper()
	tells(t, what, x, err, want, e)
	if err != nil {
		return
	}
	d.l = x
	b, err := Encode(x)
	answers(t, what+": Encode", err, api.OK)
	x, err = Parse(b)
	tells(t, what+": Parse", x, err, d.l, api.OK)
}

func TestDrawnCalls(t *testing.T) { // P16.1 to P16.10, against the model
	met := map[string]int{}
	for seed := range int64(300) {
		d := newDrawn(seed)
		for range 60 {
			what, e := d.step(t)
			met[fmt.Sprint(what, " ", int(e))]++
		}
		if t.Failed() {
			t.Fatalf("seed %d", seed)
		}
	}
	for _, what := range []string{
		"Plan 0", "Plan 162", "Plan 163",
		"Sent 0", "Sent 161", "Sent 162", "Sent 163",
		"Lost 0", "Lost 162", "Lost 163",
		"Confirm 0", "Confirm 160", "Confirm 161", "Confirm 162", "Confirm 163",
	} {
		if met[what] < 20 {
			t.Errorf("%s is met %d times", what, met[what])
		}
	}
}
