package entry

import (
	"fmt"
	"testing"

	"satchel/api"
	"satchel/disk"
	"satchel/object"
	"satchel/vault"
)

// crashWorld is what comes in while the power goes off: a bundle that makes, moves and takes away refs, and the one ahead of it.
func crashWorld() (first, second []byte, rules []api.Rule) {
	w := newWorld()
	first = w.brings(head(1, nil, stamps("heads/a", w.c, 1, "heads/x", w.c, 1)), w.b, w.t, w.c)
	second = w.brings(head(2, ids(w.c), stamps("heads/a", w.d, 2, "heads/n", w.d, 2, "heads/x", none, 2)), w.d)
	return first, second, exampleRules
}

// begin opens a vault in which the first bundle has come in.
func begin(t *testing.T) (*vault.Vault, *disk.Disk) {
	t.Helper()
	first, _, _ := crashWorld()
	d := diskOf(t, 100000)
	v := opened(t, d)
	answersImport(t, v, first)
	return v, d
}

func TestPowerOff(t *testing.T) { // P17.1: all of it, or nothing
	_, second, rules := crashWorld()
	v, _ := begin(t)
	was := seen(v)
	answersImport(t, v, second)
	behind := seen(v)
	off := 0
	for stroke := 1; ; stroke++ {
		v, d := begin(t)
		d.Plan(api.Plan{Off: stroke})
		_, err := Import(v, "away", []byte("k"), rules, second)
		if err == nil {
			break
		}
		off++
		answers(t, fmt.Sprint("off at ", stroke), err, api.ErrDiskOff)
		if seen(v) != was {
			t.Errorf("off at %d: the vault tells another state", stroke)
		}
		_, err = Import(v, "away", []byte("k"), rules, second)
		answers(t, "down", err, api.ErrVaultDown)
		if r, err := Check(v, "away", []byte("k"), rules, second); err != nil || r.Seq != 2 || r.Again || len(r.Refs) != 3 {
			t.Errorf("down: Check tells %s, %v", told(r), err)
		}
		accepts(t, "down", v, "home", 1)
		states := map[string]int{}
		for pick := range 600 {
			left, e := disk.Load(d.Crash([]int{pick % 3, pick}), api.MaxRoom)
			if e != api.OK {
				t.Fatal(e)
			}
			v := opened(t, left)
			found := seen(v)
			states[found]++
			r, err := Import(v, "away", []byte("k"), rules, second)
			answers(t, "behind the crash", err, api.OK)
			if r.Again != (found == behind) || seen(v) != behind {
				t.Errorf("off at %d, pick %d: %s", stroke, pick, told(r))
			}
		}
		if states[was]+states[behind] != 600 || states[was] == 0 {
			t.Errorf("off at %d: %d states", stroke, len(states))
		}
	}
	if off == 0 {
		t.Error("the power is never off")
	}
}

func TestDiskFull(t *testing.T) { // P17.1: nothing has changed, and with room it comes in
	_, second, rules := crashWorld()
	v, d := begin(t)
	was := seen(v)
	d.Plan(api.Plan{FullFrom: 1, FullTo: 1000})
	_, err := Import(v, "away", []byte("k"), rules, second)
	answers(t, "full", err, api.ErrDiskFull)
	if seen(v) != was {
		t.Error("full: something has changed")
	}
	if _, err := Check(v, "away", []byte("k"), rules, second); err != nil {
		t.Errorf("full: Check tells %v", err)
	}
	first, _, _ := crashWorld()
	r, err := Import(v, "away", []byte("k"), rules, first)
	if err != nil || !r.Again {
		t.Errorf("full, and nothing to be written: %s, %v", told(r), err)
	}
	d.Plan(api.Plan{})
	answersImport(t, v, second)
	closed(t, "with room", v)
}

func TestVaultFull(t *testing.T) { // P17.1, P17.3: what the vault refuses, Check doesn't know
	w := newWorld()
	small := func(n int) []byte { enc, _ := object.Encode(blob(fmt.Sprint("blob ", n))); return enc }
	fill := map[string]func(v *vault.Vault) (data []byte, want api.Result){
		"objects": func(v *vault.Vault) ([]byte, api.Result) {
			var txn api.Txn
			for i := range api.MaxStore {
				txn.Objects = append(txn.Objects, small(i))
			}
			has(t, v, txn)
			return lay(head(1, nil, nil), packOf(small(api.MaxStore), small(1)), "k"), result(1, 1, false)
		},
		"refs": func(v *vault.Vault) ([]byte, api.Result) {
			txn := api.Txn{Objects: w.encs(w.b, w.t)}
			for i := range api.MaxRefs {
				txn.Refs = append(txn.Refs, api.RefChange{Name: fmt.Sprint("r", i), New: w.b})
			}
			has(t, v, txn)
			b := w.brings(head(1, nil, stamps("heads/a", w.t, 1, "heads/b", none, 1)))
			return b, result(1, 0, false, "far/home/a", none, w.t, api.HowMade, "far/home/b", none, none, api.HowSame)
		},
		"notes": func(v *vault.Vault) ([]byte, api.Result) {
			var txn api.Txn
			for i := range api.MaxNotes {
				txn.Notes = append(txn.Notes, api.Note{Key: fmt.Sprint("n", i), Value: []byte("x")})
			}
			has(t, v, txn)
			return w.brings(head(1, nil, nil)), result(1, 0, false)
		},
		"weight": func(v *vault.Vault) ([]byte, api.Result) {
			var txn api.Txn
			for i := range 6 {
				txn.Notes = append(txn.Notes, api.Note{Key: fmt.Sprint(i), Value: make([]byte, api.MaxNote-65)})
			}
			has(t, v, txn)
			return w.brings(head(1, nil, stamps("x", w.b, 1)), w.b), result(1, 1, false)
		},
	}
	for what, lay := range fill {
		v := newVault(t)
		data, want := lay(v)
		was := seen(v)
		r, err := Check(v, "away", []byte("k"), exampleRules, data)
		answers(t, what+": Check", err, api.OK)
		if !sameResult(r, want) {
			t.Errorf("%s: %s, want %s", what, told(r), told(want))
		}
		r, err = Import(v, "away", []byte("k"), exampleRules, data)
		answers(t, what, err, api.ErrVaultFull)
		if !sameResult(r, api.Result{}) || seen(v) != was {
			t.Errorf("%s: %s, or the vault is another", what, told(r))
		}
	}
}
