package walk

import (
	"bytes"
	"fmt"
	"reflect"
	"slices"
	"testing"
	"unsafe"

	"satchel/api"
	"satchel/object"
	"satchel/store"
)

// world is a store, and what is put into it.
type world struct {
	t *testing.T
	s *store.Store
}

func newWorld(t *testing.T) world { return world{t, store.New()} }

func (w world) put(o api.Object) api.ID {
	w.t.Helper()
	id, _, e := w.s.Put(w.encoded(o))
	if e != api.OK {
		w.t.Fatalf("Put(%+v): %v", o, e)
	}
	return id
}

func (w world) encoded(o api.Object) []byte {
	w.t.Helper()
	enc, e := object.Encode(o)
	if e != api.OK {
		w.t.Fatalf("Encode(%+v): %v", o, e)
	}
	return enc
}

// plant lays an object under an id that is not its digest, from within the store: no ids that make a ring are known.
func (w world) plant(id api.ID, o api.Object) {
	w.t.Helper()
	field := reflect.ValueOf(w.s).Elem().FieldByName("encodings")
	encodings := reflect.NewAt(field.Type(), unsafe.Pointer(field.UnsafeAddr())).Interface().(*map[api.ID][]byte)
	(*encodings)[id] = w.encoded(o)
}

func (w world) blob(text string) api.ID {
	w.t.Helper()
	return w.put(api.Object{Kind: api.KindBlob, Blob: []byte(text)})
}

func (w world) tree(entries ...api.Entry) api.ID {
	w.t.Helper()
	return w.put(treeOf(entries...))
}

func (w world) commit(tree api.ID, time uint64, parents ...api.ID) api.ID {
	w.t.Helper()
	return w.put(commitOf(tree, time, parents...))
}

func (w world) tag(target api.ID, kind int) api.ID {
	w.t.Helper()
	return w.put(tagOf(target, kind))
}

// line tells so many commits, each the parent of the next one, the times of which all are the same.
func (w world) line(n int) []api.ID {
	w.t.Helper()
	tree := w.tree()
	list := []api.ID{w.commit(tree, 1)}
	for i := range n - 1 {
		list = append(list, w.commit(tree, 1, list[i]))
	}
	return list
}

// tags tells so many tags, each of the one ahead of it, the first of them of target.
func (w world) tags(target api.ID, kind, n int) []api.ID {
	w.t.Helper()
	var list []api.ID
	for range n {
		target, kind = w.tag(target, kind), api.KindTag
		list = append(list, target)
	}
	return list
}

func treeOf(entries ...api.Entry) api.Object {
	return api.Object{Kind: api.KindTree, Entries: entries}
}

func commitOf(tree api.ID, time uint64, parents ...api.ID) api.Object {
	return api.Object{Kind: api.KindCommit, Commit: api.Commit{Tree: tree, Time: time, Parents: parents}}
}

func tagOf(target api.ID, kind int) api.Object {
	return api.Object{Kind: api.KindTag, Tag: api.Tag{Target: target, Kind: kind, Name: "v"}}
}

func file(name string, id api.ID) api.Entry {
	return api.Entry{Mode: api.ModeFile, Name: name, ID: id}
}

func folder(name string, id api.ID) api.Entry {
	return api.Entry{Mode: api.ModeTree, Name: name, ID: id}
}

// all tells an id whose bytes are all the same.
func all(b byte) api.ID { return api.ID(bytes.Repeat([]byte{b}, len(api.ID{}))) }

func ids(list ...api.ID) []api.ID { return list }

// byID tells a list sorted.
func byID(list ...api.ID) []api.ID {
	list = slices.Clone(list)
	slices.SortFunc(list, func(a, b api.ID) int { return bytes.Compare(a[:], b[:]) })
	return list
}

// short tells ids in few digits.
func short(list []api.ID) string { return fmt.Sprintf("%d of %.3x", len(list), list) }

// expectList holds a list and an error against those that are to be.
func expectList(t *testing.T, what string, want []api.ID, wantError api.Errno, got []api.ID, e api.Errno) {
	t.Helper()
	if !slices.Equal(got, want) || e != wantError {
		t.Errorf("%s: %.300s, %v, want %.300s, %v", what, short(got), e, short(want), wantError)
	}
}

func (w world) reach(what string, roots, want []api.ID, wantError api.Errno) {
	w.t.Helper()
	got, e := Reach(w.s, roots)
	expectList(w.t, "Reach: "+what, want, wantError, got, e)
}

func (w world) missing(what string, roots, want []api.ID) {
	w.t.Helper()
	expectList(w.t, "Missing: "+what, want, api.OK, Missing(w.s, roots), api.OK)
}

func (w world) need(what string, wants, have, want []api.ID, wantError api.Errno) {
	w.t.Helper()
	got, e := Need(w.s, wants, have)
	expectList(w.t, "Need: "+what, want, wantError, got, e)
}

func (w world) peel(what string, id, want api.ID, wantError api.Errno) {
	w.t.Helper()
	if got, e := Peel(w.s, id); got != want || e != wantError {
		w.t.Errorf("Peel: %s: %.3x, %v, want %.3x, %v", what, got, e, want, wantError)
	}
}

func (w world) ancestors(what string, id api.ID, want []api.ID, wantError api.Errno) {
	w.t.Helper()
	got, e := Ancestors(w.s, id)
	expectList(w.t, "Ancestors: "+what, want, wantError, got, e)
}

func (w world) before(what string, a, b api.ID, want bool, wantError api.Errno) {
	w.t.Helper()
	if got, e := Before(w.s, a, b); got != want || e != wantError {
		w.t.Errorf("Before: %s: %v, %v, want %v, %v", what, got, e, want, wantError)
	}
}

func (w world) order(what string, roots, not, want []api.ID, wantError api.Errno) {
	w.t.Helper()
	got, e := Order(w.s, roots, not)
	expectList(w.t, "Order: "+what, want, wantError, got, e)
}

// bases asks both ways round.
func (w world) bases(what string, a, b api.ID, want []api.ID, wantError api.Errno) {
	w.t.Helper()
	got, e := Bases(w.s, a, b)
	expectList(w.t, "Bases: "+what, want, wantError, got, e)
	got, e = Bases(w.s, b, a)
	expectList(w.t, "Bases, the other way round: "+what, want, wantError, got, e)
}

// refused holds all calls of commits, two ids at any of their places, against one error.
func (w world) refused(what string, a, b api.ID, want api.Errno) {
	w.t.Helper()
	w.bases(what, a, b, nil, want)
	w.before(what, a, b, false, want)
	w.before(what+", the other way round", b, a, false, want)
	w.order(what+", both to be told", ids(a, b), nil, nil, want)
	w.order(what+", the first to be told", ids(a), ids(b), nil, want)
	w.order(what+", the second to be told", ids(b), ids(a), nil, want)
	w.order(what+", none to be told", nil, ids(b, a, b), nil, want)
}
