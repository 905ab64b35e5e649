package disk

import (
	"math"
	"math/rand"
	"slices"
	"strings"
	"testing"

	"satchel/api"
)

// worked tells a disk with two name changes and units of each kind: a has 3 of them, b 2, c 1.
func worked(t *testing.T) *Disk {
	t.Helper()
	d := loaded(t, 20, "a=xyz", "b=1")
	must(t, d.Cut("a", 1))
	put(t, d, "a", "qq")
	put(t, d, "b", "23")
	put(t, d, "c", "!")
	must(t, d.Rename("c", "aa"))
	return d
}

func TestCrash(t *testing.T) { // P11.11
	d := worked(t)
	for _, c := range []struct {
		want  string
		picks []int
	}{
		{"a=xyz b=1", nil},
		{"a=xyz b=1", []int{}},
		{"a=xyz b=1", []int{0}},
		{"a=xyz b=1 c=", []int{1}},
		{"a=xyz aa= b=1", []int{2}},
		{"a=xyz b=1", []int{3}},
		{"a=x b=1", []int{0, 1}},
		{"a=xqq b=12", []int{0, 3, 1}},
		{"a=xyz b=123", []int{0, 4, 2, 9, 9, 9}},
		{"a=xqq b=123 c=!", []int{1, 3, 2, 1}},
		{"a=xq aa=! b=12", []int{2, 2, 1, 1}}, // aa comes ahead of b
		{"a=xyz aa= b=123", []int{5, 8, 2, 5}},
		{"a=xqq aa=! b=123", []int{-1, -1, -1, -1}},
		{"a=xq b=12 c=", []int{-2, -2, -2, -2}},
		{"a=x b=1", []int{-3, -3, -3}},
		{"a=xyz b=123", []int{-3, -4, -4}},
		{"a=xqq b=1", []int{-6, -5, -6}},
		{"a=xqq b=12 c=!", []int{math.MaxInt, math.MaxInt, math.MaxInt, math.MaxInt}}, // 2^63 - 1 is 1 modulo 3, 3 modulo 4, 1 modulo 2
		{"a=xyz b=12 c=", []int{math.MinInt, math.MinInt, math.MinInt, math.MinInt}},  // -2^63 is 1 modulo 3, 0 modulo 4 and 2
	} {
		for range 2 { // it changes nothing
			crash(t, d, c.want, c.picks...)
		}
	}
	seen(t, d, "a=xqq aa=! b=123")
	strokes(t, d, 5)
}

func TestCrashTellsTheModuloOfThePicks(t *testing.T) { // P11.11
	d := loaded(t, 20, "a")
	put(t, d, "a", "1234")
	for p := -23; p <= 23; p++ {
		crash(t, d, "a="+"1234"[:(p+50)%5], p, p)
	}
}

func TestAFileWithoutUnitsTakesAPick(t *testing.T) { // P11.11
	d := loaded(t, 20, "a=x", "b=y", "c")
	put(t, d, "c", "12")
	crash(t, d, "a=x b=y c=", 0, 2, 2, 0)
	crash(t, d, "a=x b=y c=12", 0, 7, 7, 2)
}

func TestAFileThatIsLeftOutTakesNoPick(t *testing.T) { // P11.11
	d := loaded(t, 20, "a=x", "b=y")
	put(t, d, "a", "1")
	put(t, d, "b", "23")
	must(t, d.Remove("a"))
	crash(t, d, "a=x1 b=y2", 0, 1, 1)
	crash(t, d, "b=y2", 1, 1, 2)
}

func TestCrashAndOn(t *testing.T) { // P11.11: the disk may be worked on
	d := worked(t)
	d.Crash([]int{2, 1, 1, 1})
	put(t, d, "a", "r")
	must(t, d.Rename("aa", "d"))
	crash(t, d, "a=xqqr b=12 d=!", 3, 4, 1, 1)
	crash(t, d, "a=xqqr b=1", 0, 4, 0, 1)
	must(t, d.Sync("a"))
	must(t, d.SyncNames())
	crash(t, d, "a=xqqr b=1 d=")
	d.Plan(api.Plan{Off: 1})
	d.Remove("b")
	crash(t, d, "a=xqqr b=1 d=")
	crash(t, d, "a=xqqr d=!", 1, 0, 1)
	crash(t, d, "a=xqqr b=123 d=", 0, 0, 2)
}

func TestAnImageAboveTheRoom(t *testing.T) { // P11.11
	d := loaded(t, 5, "a=12345")
	must(t, d.Remove("a"))
	put(t, d, "b", "67890")
	must(t, d.Rename("b", "c"))
	must(t, d.SyncNames())
	must(t, d.Sync("c"))
	must(t, d.Cut("c", 0))
	put(t, d, "d", "abcde")
	must(t, d.Sync("d"))
	img := d.Crash([]int{1})
	if told(img) != "c=67890 d=abcde" {
		t.Fatalf("Crash tells %s", told(img))
	}
	if x, e := Load(img, 5); x != nil || e != api.ErrDiskImage {
		t.Errorf("Load: %v, %d", x, e)
	}
	x, e := Load(img, 10)
	answers(t, "Load with more room", e, api.OK)
	seen(t, x, "c=67890 d=abcde")
	d = loaded(t, 5, "a=12345") // a removal that is lost, too
	must(t, d.Remove("a"))
	put(t, d, "a", "67890")
	must(t, d.Sync("a"))
	crash(t, d, "a=12345")
	crash(t, d, "a=67890", 2)
}

func TestAllImagesOfAnUpdate(t *testing.T) { // P11.12: a file written aside, made safe, and renamed
	d := loaded(t, 100, "a=old")
	for _, safe := range []bool{true, false} {
		put(t, d, "t", "new")
		if safe {
			must(t, d.Sync("t"))
		}
		must(t, d.Rename("t", "a"))
		for p0 := range 4 {
			for p1 := range 5 {
				for _, f := range d.Crash([]int{p0, p1, p1}) {
					if f.Name == "a" && safe && string(f.Data) != "old" && string(f.Data) != "new" {
						t.Errorf("a is %q", f.Data)
					}
				}
			}
		}
		if !safe {
			crash(t, d, "a=", 2, 0) // the renaming may be kept and the bytes lost
		}
		d = loaded(t, 100, "a=old")
	}
}

// drawn carries out a call that is drawn.
func drawn(d *Disk, r *rand.Rand) {
	name := func() string { return string(rune('a' + r.Intn(4))) }
	switch r.Intn(10) {
	case 0:
		d.Cut(name(), r.Intn(8))
	case 1:
		d.Sync(name())
	case 2:
		d.SyncNames()
	case 3:
		d.Rename(name(), name())
	case 4:
		d.Remove(name())
	default:
		d.Append(name(), []byte("uvwxyz"[:r.Intn(7)]))
	}
}

func TestWhatWasSafeStays(t *testing.T) { // P11.12
	r := rand.New(rand.NewSource(1))
	for range 300 {
		d := fresh(t, 60)
		for range 30 {
			drawn(d, r)
		}
		for _, name := range []string{"a", "b", "c", "d"} {
			d.Sync(name)
		}
		d.SyncNames()
		safe := d.Crash(nil)
		if told(safe) != seenOf(t, d) {
			t.Fatalf("safe is %q, and seen %q", told(safe), seenOf(t, d))
		}
		for range 10 {
			d.Append(string(rune('a'+r.Intn(4))), []byte("01234"[:r.Intn(6)]))
			left := d.Crash([]int{r.Int(), -r.Int(), r.Int(), r.Int(), r.Int()})
			for _, f := range safe {
				i := slices.IndexFunc(left, func(g api.FileBytes) bool { return g.Name == f.Name })
				if i < 0 || !strings.HasPrefix(string(left[i].Data), string(f.Data)) {
					t.Fatalf("%s=%s is not in %s", f.Name, f.Data, told(left))
				}
			}
		}
	}
}

func TestLoadOfAnImage(t *testing.T) { // P11.13
	r := rand.New(rand.NewSource(2))
	for range 300 {
		d := fresh(t, 60)
		for range 40 {
			drawn(d, r)
			img := d.Crash([]int{r.Int(), r.Int(), -r.Int(), r.Int(), r.Int()})
			x, e := Load(img, api.MaxRoom)
			if e != api.OK {
				t.Fatalf("Load(%s): %d", told(img), e)
			}
			crash(t, x, told(img))
			crash(t, x, told(img), r.Int(), -r.Int(), r.Int(), r.Int())
			seen(t, x, told(img))
		}
	}
}

func TestManyUnits(t *testing.T) { // R6: what is kept of an appended byte is little more than the byte
	d := fresh(t, api.MaxRoom)
	const many = 1 << 20
	one := []byte("x")
	if n := taken(func() {
		for range many {
			d.Append("a", one)
		}
	}); n > 16*many {
		t.Errorf("Append of %d bytes takes %d", many, n)
	}
	strokes(t, d, many)
	for _, p := range []int{0, 1, many - 1, many} {
		if img := d.Crash([]int{1, p}); len(img) != 1 || len(img[0].Data) != p {
			t.Errorf("Crash([1 %d]) tells other bytes", p)
		}
	}
}

func TestManySmallTransactions(t *testing.T) { // R6: Sync works on what is not safe, not on the whole file
	d := fresh(t, api.MaxRoom)
	must(t, d.Append("a", make([]byte, 1<<24)))
	must(t, d.Sync("a"))
	if n := taken(func() {
		for range 1000 {
			put(t, d, "a", "x")
			must(t, d.Sync("a"))
		}
	}); n > 1<<26 {
		t.Errorf("1000 times Append of a byte and Sync take %d bytes", n)
	}
}
