package pack

import (
	"bytes"
	"cmp"
	"slices"

	"satchel/api"
	"satchel/delta"
	"satchel/press"
)

const (
	leastShared = 48      // with less in common a delta, its base's id and all, hardly pays
	mostRead    = 1 << 22 // bytes of bases that are read for deltas: a thousand small objects beside one great base would take too long
	stride      = 64      // bytes that are compared at one time
)

// leaner chooses how objects are told.
type leaner struct {
	shelf []choice // what may be a base of the next one
	read  int      // bytes of bases that have been read so far
}

// choice is a text that may be a base, with its depth.
type choice struct {
	text
	depth int
}

// leaned tells the records of objects, sorted by id. The longest come first: what a shorter one lacks costs nothing.
func leaned(objs, bases []text) []record {
	l := &leaner{}
	for _, t := range bases {
		// The base of its id would be the pack's own record.
		if _, inside := slices.BinarySearchFunc(objs, t, compareTexts); !inside {
			l.shelf = append(l.shelf, choice{text: t})
		}
	}
	order := slices.Clone(objs)
	slices.SortStableFunc(order, func(a, b text) int { return cmp.Compare(len(b.enc), len(a.enc)) })
	var records []record
	for _, t := range order {
		records = append(records, l.tell(t))
	}
	slices.SortFunc(records, func(a, b record) int { return compare(a.id, b.id) })
	return records
}

// tell takes the shorter of two records, and lets later ones lean on the object.
func (l *leaner) tell(t text) record {
	best, depth := whole(t), 0
	if base, ok := l.closest(t); ok {
		l.read += len(base.enc)
		if r, ok := leaning(t, base.text); ok && r.cost() < best.cost() {
			best, depth = r, base.depth+1
		}
	}
	if depth < api.MaxChain {
		l.shelf = append(l.shelf, choice{text: t, depth: depth})
	}
	return best
}

// closest tells what shares the longest beginning and end with a text: by these Make bounds its delta. Of several it is the shortest, which is read the fastest.
func (l *leaner) closest(t text) (choice, bool) {
	var best choice
	most := 0
	for _, c := range l.shelf {
		n := shared(c.enc, t.enc)
		if n > most || n == most && len(c.enc) < len(best.enc) {
			best, most = c, n
		}
	}
	return best, most >= leastShared && l.read+len(best.enc) <= mostRead
}

// whole and leaning make records.
func whole(t text) record {
	data, _ := press.Press(t.enc) // an object is never too long for it
	return record{id: t.id, form: formWhole, size: len(t.enc), data: data}
}

func leaning(t, base text) (record, bool) {
	d, e := delta.Make(base.enc, t.enc)
	if e != api.OK {
		return record{}, false
	}
	data, e := press.Press(d)
	if e != api.OK {
		return record{}, false
	}
	return record{id: t.id, form: formDelta, base: base.id, size: len(t.enc), data: data}, true
}

// shared tells how long the common beginning and the common end behind it are together.
func shared(a, b []byte) int {
	head := alike(a, b)
	return head + alikeAtEnd(a[head:], b[head:])
}

func alike(a, b []byte) int {
	n, most := 0, min(len(a), len(b))
	for n+stride <= most && bytes.Equal(a[n:n+stride], b[n:n+stride]) {
		n += stride
	}
	for n < most && a[n] == b[n] {
		n++
	}
	return n
}

func alikeAtEnd(a, b []byte) int {
	n, most := 0, min(len(a), len(b))
	// Cut to one length, so that a place from the end is the same in both.
	a, b = a[len(a)-most:], b[len(b)-most:]
	for n+stride <= most && bytes.Equal(a[most-n-stride:most-n], b[most-n-stride:most-n]) {
		n += stride
	}
	for n < most && a[most-1-n] == b[most-1-n] {
		n++
	}
	return n
}
