package vault

import (
	"fmt"
	"strings"
	"testing"

	"satchel/api"
)

// mayAdd tells how many bytes a transaction may add to the journal's file, each part of which changes something.
func mayAdd(t api.Txn) int {
	sum := 256
	for _, enc := range t.Objects {
		sum += len(enc) + 128
	}
	for _, r := range t.Refs {
		sum += len(r.Name) + 128
	}
	for _, n := range t.Notes {
		sum += len(n.Key) + len(n.Value) + 128
	}
	return sum
}

func TestSizes(t *testing.T) { // P13.8
	v, d := made(t)
	great := strings.Repeat("v", api.MaxNote)
	compacted := func(what string) {
		t.Helper()
		w := opened(t, loaded(t, api.MaxRoom, d.Crash(nil)))
		answers(t, what, w.Compact(), api.OK)
		if n := len(onDisk(t, w.disk)); n > weigh(w)+256 {
			t.Errorf("%s: Compact leaves %d bytes of a weight of %d", what, n, weigh(w))
		}
		w.Sweep()
		if n := len(onDisk(t, w.disk)); n > weigh(w)+256 {
			t.Errorf("%s: Sweep leaves %d bytes of a weight of %d", what, n, weigh(w))
		}
	}
	compacted("nothing")
	names := named("n", 200)
	var refs, away, notes api.Txn
	for _, name := range names {
		refs.Refs = append(refs.Refs, ref(name, none, x))
		away.Refs = append(away.Refs, ref(name, x, none))
		notes.Notes = append(notes.Notes, note(name, "v"))
	}
	for i, one := range []api.Txn{
		txn("\x01"),
		txn(blob, tree),
		txn(note("k", "v")),
		txn(note("k", "")),
		txn(note("k", great)),
		txn(ref("a", none, x)),
		txn(ref("a", x, y), note("k", ""), blobOf("1")),
		txn(ref("a", y, none)),
		objectsOf(numbered(1000)),
		txn(strings.Repeat("\x01", api.MaxObject)),
		refs,
		away,
		notes,
	} {
		was := len(onDisk(t, d))
		does(t, v, one)
		if n := len(onDisk(t, d)) - was; n <= 0 || n > mayAdd(one) {
			t.Errorf("transaction %d adds %d bytes, %d may be", i, n, mayAdd(one))
		}
		compacted(fmt.Sprintf("behind transaction %d", i))
	}
	was := len(onDisk(t, d))
	does(t, v, txn(blob, tree, ref("b", none, none), notes.Notes[0], note("new", "1"), strings.Repeat("\x01", api.MaxObject)))
	if n := len(onDisk(t, d)) - was; n > mayAdd(txn(note("new", "1"))) {
		t.Errorf("a transaction of which a part changes something adds %d bytes", n)
	}
}

func TestSizesAtTheEnd(t *testing.T) { // P13.8: numbers as great as may be
	v, d := over(t, rec(api.MaxSeq-2, wholeText(api.MaxSeq-2, objectsText(blob, tree), listOf(logText("a", y, moved(api.MaxSeq-65, 64)...)), listOf())))
	was := len(onDisk(t, d))
	one := txn(ref("a", y, x), ref("b", none, x), note("k", "v"), "\x01")
	does(t, v, one)
	if n := len(onDisk(t, d)) - was; n > mayAdd(one) {
		t.Errorf("it adds %d bytes, %d may be", n, mayAdd(one))
	}
	answers(t, "Compact", v.Compact(), api.OK)
	if n := len(onDisk(t, d)); n > weigh(v)+256 {
		t.Errorf("Compact leaves %d bytes of a weight of %d", n, weigh(v))
	}
	holds(t, "opened", opened(t, d), seen(v))
}

func TestSmallSizes(t *testing.T) { // P13.8: things that weigh least beside their bytes
	v, d := made(t)
	var one api.Txn
	for i := range 200 {
		one.Objects = append(one.Objects, []byte{1, byte(i)})
		one.Refs = append(one.Refs, ref(string(rune(i+1)), none, idOf(string([]byte{1, byte(i)}))))
		one.Notes = append(one.Notes, note(string(rune(i+1)), "v"))
	}
	does(t, v, one)
	if n := len(onDisk(t, d)); n > mayAdd(one) {
		t.Errorf("it adds %d bytes, %d may be", n, mayAdd(one))
	}
	for _, call := range []func() error{v.Compact, v.Sweep} {
		answers(t, "Compact, Sweep", call(), api.OK)
		if n := len(onDisk(t, d)); n > weigh(v)+256 {
			t.Errorf("%d bytes are left of a weight of %d", n, weigh(v))
		}
		does(t, v, txn(blob))
	}
}
