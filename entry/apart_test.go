package entry

import (
	"fmt"
	"runtime"
	"slices"
	"testing"
	"time"

	"satchel/api"
	"satchel/object"
	"satchel/store"
)

func TestTakeApart(t *testing.T) { // 'Ways': in order, and no further than somebody looks
	w := newWorld()
	objs := w.encs(w.d, w.b, w.t, w.c)
	found, done := make(chan part), make(chan struct{})
	go takeApart(objs, found, done)
	var got []api.ID
	for p := range found {
		got = append(got, p.id)
		links, _ := w.s.Children(p.id)
		if !slices.Equal(p.links, links) || p.fault != api.OK {
			t.Errorf("%.4x: %.4x, %v", p.id, p.links, p.fault)
		}
	}
	if want := ids(w.d, w.b, w.t, w.c); !slices.Equal(got, want) {
		t.Errorf("%.4x, want %.4x", got, want)
	}
	found = make(chan part)
	go takeApart(objs, found, done)
	<-found
	close(done)
	for range found {
		// Some may come while the other one looks up.
	}
}

func TestTheFirstFaultIsTold(t *testing.T) { // 'Ways': what comes first in that order is told
	w := newWorld()
	bad := []byte{7}
	var many [][]byte
	for i := range api.MaxStore + 1 {
		enc, _ := object.Encode(blob(fmt.Sprint(i)))
		many = append(many, enc)
	}
	for _, c := range []struct {
		what string
		objs [][]byte
		n    api.Errno
	}{
		{"none", nil, api.OK},
		{"right ones", w.encs(w.b, w.t, w.c), api.OK},
		{"a bad one", [][]byte{bad}, api.ErrStoreObject},
		{"the last one", append(w.encs(w.b, w.t, w.c), bad), api.ErrStoreObject},
		{"the first one", append([][]byte{bad}, many...), api.ErrStoreObject},
		{"too many", append(slices.Clone(many), bad), api.ErrStoreFull},
	} {
		before := runtime.NumGoroutine()
		in, err := lookAt(c.objs, store.New())
		answers(t, c.what, err, c.n)
		if err == nil && in.fresh != len(c.objs) || err != nil && in.fresh != 0 {
			t.Errorf("%s: %d are new", c.what, in.fresh)
		}
		ended(t, c.what, before)
	}
}

// ended waits a while, since a goroutine that has nothing more to do may still be counted for a moment.
func ended(t *testing.T, what string, before int) {
	t.Helper()
	for range 200 {
		if runtime.NumGoroutine() <= before {
			return
		}
		time.Sleep(time.Millisecond)
	}
	t.Errorf("%s: %d goroutines, %d ahead", what, runtime.NumGoroutine(), before)
}

func TestGoroutinesEnd(t *testing.T) { // P17.7, R8
	w := newWorld()
	v := stepVault(t, w)
	before := runtime.NumGoroutine()
	for range 20 {
		x := w.newCall()
		_, err := Check(v, x.me, []byte("k"), x.rules, x.data())
		answers(t, "Check", err, api.OK)
		for _, f := range w.stepFaults() {
			x := w.newCall()
			f.lay(x)
			_, err := Import(v, x.me, []byte("k"), x.rules, x.data())
			answers(t, f.name, err, f.n, f.ids...)
		}
		answersImport(t, v, w.brings(head(512, nil, nil), w.s.Ids()[:0]...))
		if runtime.NumGoroutine() > before {
			ended(t, "Import and Check", before)
		}
	}
	ended(t, "Import and Check", before)
}

func TestSeveralWorkers(t *testing.T) { // R8: two vaults may be worked on at one time
	w := newWorld()
	b1, b2, _ := w.examples()
	answer := make(chan string)
	const workers = 8
	for range workers {
		v := newVault(t)
		go func() {
			for _, b := range [][]byte{b1, b2, b1} {
				Import(v, "away", []byte("k"), exampleRules, b)
			}
			answer <- seen(v)
		}()
	}
	first := <-answer
	for range workers - 1 {
		if got := <-answer; got != first {
			t.Errorf("%s, want %s", got, first)
		}
	}
}
