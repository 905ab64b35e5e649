package entry

import (
	"bytes"
	"errors"
	"fmt"
	"slices"
	"testing"

	"satchel/api"
)

// roomy tells a copy of a list with spare room behind its end, and the whole of it.
func roomy[T any](list []T, behind ...T) (given, whole []T) {
	whole = slices.Concat(list, behind)
	return whole[:len(list)], whole
}

// spoil writes over a list and the spare room behind its end.
func spoil[T any](list []T, item T) {
	list = list[:cap(list)]
	for i := range list {
		list[i] = item
	}
}

func TestMemory(t *testing.T) { // P17.7, R2: what is handed in, what is answered, what is kept
	w := newWorld()
	v := stepVault(t, w)
	x := w.newCall()
	data, wholeData := roomy(x.data(), bytes.Repeat([]byte{9}, 3000)...)
	key, wholeKey := roomy([]byte("k"), []byte("spare")...)
	rules, wholeRules := roomy(x.rules, slices.Repeat([]api.Rule{{Src: "a", Dst: "b"}}, 20)...)
	given := fmt.Sprint(wholeData, wholeKey, wholeRules)
	one, err := Check(v, "away", key, rules, data)
	answers(t, "Check", err, api.OK)
	two, _ := Check(v, "away", key, rules, data)
	want := told(one)
	spoil(two.Refs, api.Moved{Name: "spoilt"})
	three, err := Import(v, "away", key, rules, data)
	answers(t, "Import", err, api.OK)
	if fmt.Sprint(wholeData, wholeKey, wholeRules) != given {
		t.Error("what is handed in, or the room behind it, is changed")
	}
	if told(one) != want || told(three) != want {
		t.Errorf("%s, %s, want %s", told(one), told(three), want)
	}
	kept := seen(v)
	spoil(wholeData, 0)
	spoil(wholeKey, 0)
	spoil(wholeRules, api.Rule{})
	if seen(v) != kept || told(three) != want {
		t.Error("what was handed in is kept")
	}
	spoil(three.Refs, api.Moved{})
	if seen(v) != kept || told(one) != want {
		t.Error("two answers share memory")
	}
	closed(t, "behind it", v)
}

func TestMemoryOfReceipts(t *testing.T) { // P17.7, R2
	w := newWorld()
	v := stepVault(t, w)
	key, wholeKey := roomy([]byte("k"), []byte("spare")...)
	slip, err := Receipt(v, "away", "home", key)
	answers(t, "Receipt", err, api.OK)
	again, _ := Receipt(v, "away", "home", key)
	numbers, more := Accepted(v, "home"), Accepted(v, "home")
	if !bytes.Equal(wholeKey, []byte("kspare")) {
		t.Error("the key, or the room behind it, is changed")
	}
	spoil(again, 0)
	spoil(more, 0)
	spoil(wholeKey, 0)
	if third, _ := Receipt(v, "away", "home", []byte("k")); !bytes.Equal(third, slip) || !slices.Equal(Accepted(v, "home"), numbers) {
		t.Error("two answers share memory")
	}
}

// faultsOf tells all Faults of a chain.
func faultsOf(err error) []*api.Fault {
	var list []*api.Fault
	for f := (*api.Fault)(nil); errors.As(err, &f); err = f.Err {
		list = append(list, f)
	}
	return list
}

func TestMemoryOfFaults(t *testing.T) { // P17.7, R2: no two lists of ids share memory
	w := newWorld()
	v := stepVault(t, w)
	for _, f := range w.stepFaults() {
		x := w.newCall()
		f.lay(x)
		call := func() []*api.Fault {
			_, err := Import(v, x.me, []byte("k"), x.rules, x.data())
			return faultsOf(err)
		}
		one, other := call(), call()
		for i := range one {
			was := fmt.Sprint(idsOf(one[:i]), idsOf(one[i+1:]), idsOf(other))
			spoil(one[i].IDs, all(255))
			if fmt.Sprint(idsOf(one[:i]), idsOf(one[i+1:]), idsOf(other)) != was {
				t.Errorf("%s: two lists of ids share memory", f.name)
			}
		}
		if i := slices.IndexFunc(other, func(o *api.Fault) bool { return len(o.IDs) > 0 }); (i == 0) != (len(f.ids) > 0) {
			t.Errorf("%s: the first Fault's ids are those of the number %d", f.name, i)
		}
	}
}

func idsOf(faults []*api.Fault) [][]api.ID {
	var list [][]api.ID
	for _, f := range faults {
		list = append(list, f.IDs)
	}
	return list
}
