package refs

import (
	"reflect"
	"testing"
	"unsafe"

	"satchel/api"
	"satchel/digest"
	"satchel/object"
	"satchel/store"
)

// world is a store with what is put into it, refs and a head.
type world struct {
	t    *testing.T
	s    *store.Store
	refs []api.Ref
	head string
}

func newWorld(t *testing.T) *world { return &world{t: t, s: store.New()} }

func encoded(t *testing.T, o api.Object) []byte {
	t.Helper()
	enc, e := object.Encode(o)
	if e != api.OK {
		t.Fatalf("Encode(%+v): %v", o, e)
	}
	return enc
}

func (w *world) put(o api.Object) api.ID {
	w.t.Helper()
	id, _, e := w.s.Put(encoded(w.t, o))
	if e != api.OK {
		w.t.Fatalf("Put(%+v): %v", o, e)
	}
	return id
}

// plant lays an object under an id that is not its digest, from within the store: no ids that make a ring are known.
func (w *world) plant(id api.ID, o api.Object) {
	w.t.Helper()
	field := reflect.ValueOf(w.s).Elem().FieldByName("encodings")
	encodings := reflect.NewAt(field.Type(), unsafe.Pointer(field.UnsafeAddr())).Interface().(*map[api.ID][]byte)
	(*encodings)[id] = encoded(w.t, o)
}

func (w *world) blob(text string) api.ID {
	w.t.Helper()
	return w.put(api.Object{Kind: api.KindBlob, Blob: []byte(text)})
}

func (w *world) tree(entries ...api.Entry) api.ID {
	w.t.Helper()
	return w.put(api.Object{Kind: api.KindTree, Entries: entries})
}

func (w *world) commit(tree api.ID, text string, parents ...api.ID) api.ID {
	w.t.Helper()
	return w.put(aCommit(tree, text, parents...))
}

func (w *world) tag(target api.ID, kind int) api.ID {
	w.t.Helper()
	return w.put(aTag(target, kind))
}

func aCommit(tree api.ID, text string, parents ...api.ID) api.Object {
	return api.Object{Kind: api.KindCommit, Commit: api.Commit{Tree: tree, Parents: parents, Text: text}}
}

func aTag(target api.ID, kind int) api.Object {
	return api.Object{Kind: api.KindTag, Tag: api.Tag{Target: target, Kind: kind, Name: "v"}}
}

func file(name string, id api.ID) api.Entry {
	return api.Entry{Mode: api.ModeFile, Name: name, ID: id}
}

func folder(name string, id api.ID) api.Entry {
	return api.Entry{Mode: api.ModeTree, Name: name, ID: id}
}

// ref puts a ref behind those that there are.
func (w *world) ref(name string, id api.ID) { w.refs = append(w.refs, api.Ref{Name: name, ID: id}) }

// means looks whether texts mean an object.
func (w *world) means(want api.ID, texts ...string) {
	w.t.Helper()
	for _, text := range texts {
		if id, e := Resolve(w.s, w.refs, w.head, text); id != want || e != api.OK {
			w.t.Errorf("Resolve(%.80q): %.4x, %v, want %.4x", text, id, e, want)
		}
	}
}

// fails looks whether texts are refused.
func (w *world) fails(want api.Errno, texts ...string) {
	w.t.Helper()
	for _, text := range texts {
		if id, e := Resolve(w.s, w.refs, w.head, text); id != (api.ID{}) || e != want {
			w.t.Errorf("Resolve(%.80q): %.4x, %v, want %v", text, id, e, want)
		}
	}
}

// example is the world of the chapter's examples.
type example struct {
	*world
	blob, a, top, empty, c0, c1, c2, v api.ID
}

func newExample(t *testing.T) example {
	w := newWorld(t)
	x := example{world: w, blob: w.blob("text")}
	x.a = w.tree(file("f", x.blob))
	x.top = w.tree(folder("a", x.a))
	x.empty = w.tree()
	x.c0 = w.commit(x.empty, "c0")
	x.c1 = w.commit(x.empty, "c1")
	x.c2 = w.commit(x.top, "c2", x.c1, x.c0)
	x.v = w.tag(x.c1, api.KindCommit)
	w.ref("heads/main", x.c2)
	w.ref("tags/v", x.v)
	w.head = "heads/main"
	return x
}

// twins tells two blobs that are put whose ids begin with the same digits, and these.
func (w *world) twins(digits int) (one, two api.ID, prefix string) {
	w.t.Helper()
	first := map[string][2]byte{}
	for i := range 1 << 16 {
		b := [2]byte{byte(i), byte(i >> 8)}
		prefix = digest.Hex(object.Id([]byte{1, b[0], b[1]}))[:digits]
		if other, ok := first[prefix]; ok {
			return w.blob(string(other[:])), w.blob(string(b[:])), prefix
		}
		first[prefix] = b
	}
	w.t.Fatalf("no two blobs with the same %d digits", digits)
	return one, two, prefix
}
