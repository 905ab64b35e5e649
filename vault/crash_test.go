package vault

import (
	"fmt"
	"testing"

	"satchel/api"
	"satchel/disk"
)

// told tells an image as a text.
func told(img []api.FileBytes) string { return fmt.Sprintf("%q", img) }

// images tells all that a crash of a disk can leave, each once: every number of name changes, and of units of each of the two files.
func images(d *disk.Disk) [][]api.FileBytes {
	var list [][]api.FileBytes
	met := map[string]int{}
	for names := range 5 { // more changes than four there are not
		rounds(func(one int) string {
			return rounds(func(two int) string {
				img := d.Crash([]int{names, one, two})
				met[told(img)]++
				if met[told(img)] == 1 {
					list = append(list, img)
				}
				return told(img)
			})
		})
	}
	return list
}

// rounds asks with 0, 1 and so on till what is told is that of 0 again: a pick counts modulo the units. It tells that of 0.
func rounds(ask func(pick int) string) string {
	first := ask(0)
	for pick := 1; ask(pick) != first; pick++ {
	}
	return first
}

func TestCrash(t *testing.T) { // P13.7
	eachCall(t, func(what string, b begun, c call, was, becomes string) {
		for off := 1; ; off++ {
			v, d := b.make(t)
			d.Plan(api.Plan{Off: off})
			err := c.ask(v)
			at := fmt.Sprintf("%s, off at %d", what, off)
			met := map[string]int{}
			for _, img := range images(d) {
				got := leftBy(t, at, img)
				met[got]++
				if got != becomes && (err == nil || got != was) {
					t.Fatalf("%s: %s is left of %s", at, got, told(img))
				}
			}
			if err == nil {
				holds(t, at, v, becomes)
				break
			}
			answers(t, at, err, api.ErrDiskOff)
			holds(t, at, v, was)
			if off == 1 && met[was] == 0 {
				t.Errorf("%s: nothing leaves the state ahead", at)
			}
		}
	})
}

// leftBy tells the state of the vault over an image, having held that opening it again, on a copy, and behind a second crash tells the same, and that it is whole.
func leftBy(t *testing.T, what string, img []api.FileBytes) string {
	t.Helper()
	d := loaded(t, room, img)
	v := opened(t, d)
	was := seen(v)
	holds(t, what+", opened again", opened(t, d), was)
	if d.Strokes() != 0 {
		t.Errorf("%s: Open writes", what)
	}
	holds(t, what+", opened on a copy", opened(t, loaded(t, room, d.Crash([]int{1, 2, 3}))), was)
	answers(t, what+", Check", v.Check(), api.OK)
	return was
}

func TestSecondCrash(t *testing.T) { // P13.7: the power goes off again and again
	eachCall(t, func(what string, b begun, c call, was, becomes string) {
		_, d := b.make(t)
		d.Plan(api.Plan{Off: 2})
		v := opened(t, d)
		answers(t, what, c.ask(v), api.ErrDiskOff)
		for _, picks := range [][]int{nil, {1}, {1, 20, 20}, {2, 70, 70}, {3, -2, -2}, {-1, -1, -1}} {
			img := d.Crash(picks)
			for _, again := range calls() {
				if b.empty && !again.empty {
					continue
				}
				for off := 1; off <= 5; off++ {
					crashAgain(t, fmt.Sprintf("%s, %v, then %s, off at %d", what, picks, again.name, off), img, again, off)
				}
			}
		}
	})
}

// crashAgain holds that behind a second crash, in another call, the vault is as that found it or as that leaves it.
func crashAgain(t *testing.T, what string, img []api.FileBytes, c call, off int) {
	t.Helper()
	calm := opened(t, loaded(t, room, img))
	left := seen(calm)
	if err := c.ask(calm); err != nil && api.Code(err) != api.ErrVaultOld {
		t.Fatalf("%s: %v", what, err)
	}
	d := loaded(t, room, img)
	v := opened(t, d)
	d.Plan(api.Plan{Off: off})
	err := c.ask(v)
	for _, picks := range [][]int{nil, {1}, {2, 30, 30}, {-1, 60, 60}, {-1, -1, -1}, {-2, -2, -1}} {
		got := seen(opened(t, loaded(t, room, d.Crash(picks))))
		if got != seen(calm) && (err == nil || got != left) {
			t.Fatalf("%s, %v: %s", what, picks, got)
		}
	}
}

func TestRowOfCrashes(t *testing.T) { // P13.7: a row of calls, crashed at each stroke of all of them
	row := func(v *Vault, look func()) error {
		one := blobOf("1")
		for _, ask := range []func() error{
			func() error { return v.Apply(txn(tree, blob, ref("a", none, y))) },
			func() error { return v.Apply(txn(note("k", "v"), ref("a", y, x))) },
			v.Sweep,
			func() error { return v.Apply(txn(one, ref("b", none, idOf(one)))) },
			v.Compact,
			v.Compact,
			func() error { return v.Apply(txn(ref("a", x, none), note("k", ""))) },
			v.Sweep,
			func() error { return v.Apply(txn(note("l", "w"))) },
		} {
			if err := ask(); err != nil {
				return err
			}
			look()
		}
		return nil
	}
	v, _ := made(t)
	states := []string{seen(v)}
	answers(t, "the row", row(v, func() { states = append(states, seen(v)) }), api.OK)
	for off := 1; ; off++ {
		d := loaded(t, room, nil)
		v := opened(t, d)
		d.Plan(api.Plan{Off: off})
		done := 0
		err := row(v, func() { done++ })
		for _, img := range images(d) {
			got := seen(opened(t, loaded(t, room, img)))
			if got != states[done] && (err == nil || got != states[done+1]) {
				t.Fatalf("off at %d: behind %d calls: %s", off, done, got)
			}
		}
		if err == nil {
			break
		}
		holds(t, "down", v, states[done])
	}
}
