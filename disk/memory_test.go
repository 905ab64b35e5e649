package disk

import (
	"bytes"
	"runtime"
	"slices"
	"testing"

	"satchel/api"
)

// spoil writes over bytes and the spare room behind them.
func spoil(b []byte) {
	for i := range b[:cap(b)] {
		b[:cap(b)][i] = '#'
	}
}

const spare = "spare room"

// roomy copies a text into a list with spare room behind its end.
func roomy(text string) []byte { return []byte(text + spare)[: len(text) : len(text)+len(spare)] }

func untouched(b []byte, was string) bool {
	return string(b) == was && string(b[:cap(b)][len(b):]) == spare
}

// taken tells how many bytes of memory a call takes.
func taken(call func()) uint64 {
	var before, after runtime.MemStats
	runtime.ReadMemStats(&before)
	call()
	runtime.ReadMemStats(&after)
	return after.TotalAlloc - before.TotalAlloc
}

func TestMemoryOfAppend(t *testing.T) { // P11.14, R2
	for _, off := range []int{0, 5} { // the last one may be the one at which the power goes off
		d := loaded(t, 100, "a=x")
		d.Plan(api.Plan{Off: off})
		var given [][]byte
		for i, text := range []string{"one", "two", "", "more"} {
			b := roomy(text)
			given = append(given, b)
			name := []string{"a", "a", "b", "b"}[i]
			answers(t, "Append", d.Append(name, b), api.OK)
			if !untouched(b, text) {
				t.Errorf("Append has changed %q, or its room", text)
			}
		}
		b := roomy("last")
		given = append(given, b)
		d.Append("a", b)
		if !untouched(b, "last") {
			t.Error("Append has changed the last, or its room")
		}
		for _, b := range given {
			spoil(b)
		}
		crash(t, d, "a=xonetwolast b=more", -1, -1, -1)
	}
}

func TestMemoryOfAppendOfOneList(t *testing.T) { // P11.14: one list handed in again and again, written to between
	d := fresh(t, 100)
	b := make([]byte, 0, 16)
	for i := range 5 {
		b = append(b, byte('0'+i))
		must(t, d.Append("a", b))
		must(t, d.Append("b", b[i:]))
	}
	seen(t, d, "a=001012012301234 b=01234")
	must(t, d.Sync("a"))
	spoil(b)
	must(t, d.Append("a", b[:1]))
	seen(t, d, "a=001012012301234# b=01234")
	crash(t, d, "a=001012012301234# b=01234", -1, -1, -1)
}

func TestMemoryOfLoad(t *testing.T) { // P11.14, R2
	img := []api.FileBytes{{Name: "a", Data: roomy("one")}, {Name: "b", Data: roomy("")}, {Name: "c", Data: roomy("two")}, {Name: "spare"}}[:3]
	d, e := Load(img, 100)
	other, _ := Load(img, 100)
	answers(t, "Load", e, api.OK)
	for i, was := range []string{"one", "", "two"} {
		if img[i].Name != "abc"[i:i+1] || !untouched(img[i].Data, was) {
			t.Errorf("Load has changed file %d, or its room", i)
		}
	}
	if img[:4][3].Name != "spare" {
		t.Error("Load has changed the list's room")
	}
	put(t, d, "a", "more") // not into the list's room, nor into the other disk's
	must(t, d.Sync("a"))
	must(t, d.Cut("c", 0))
	put(t, d, "c", "new")
	must(t, d.Sync("c"))
	if !untouched(img[0].Data, "one") || !untouched(img[2].Data, "two") {
		t.Error("what was handed to Load is written to")
	}
	for _, f := range img {
		spoil(f.Data)
	}
	clear(img)
	seen(t, d, "a=onemore b= c=new")
	seen(t, other, "a=one b= c=two")
	crash(t, other, "a=one b= c=two", -1, -1, -1, -1)
}

func TestMemoryOfLoadOfOneList(t *testing.T) { // R2: files that are handed in with the same bytes
	b := []byte("one")
	d, e := Load([]api.FileBytes{{Name: "a", Data: b}, {Name: "b", Data: b}, {Name: "c", Data: b[:2]}}, 100)
	answers(t, "Load", e, api.OK)
	must(t, d.Cut("a", 1))
	put(t, d, "a", "##")
	must(t, d.Sync("a"))
	seen(t, d, "a=o## b=one c=on")
	if string(b) != "one" {
		t.Errorf("what was handed to Load is written to: %q", b)
	}
}

func TestMemoryOfPicks(t *testing.T) { // P11.14, R2
	d := worked(t)
	picks := []int{-1, 7, -7, 1, 99, 98}[:4]
	img := d.Crash(picks)
	if !slices.Equal(picks[:6], []int{-1, 7, -7, 1, 99, 98}) {
		t.Errorf("Crash has changed the picks, or their room: %v", picks[:6])
	}
	was := told(img)
	clear(picks[:6])
	if told(img) != was {
		t.Error("the image hangs on the picks")
	}
}

// states tells disks in each of which bytes stand otherwise: safe, not safe, partly so, cut.
func states(t *testing.T) []*Disk {
	t.Helper()
	safe := loaded(t, 100, "a=xyz", "b=1")
	units := fresh(t, 100)
	put(t, units, "a", "xyz")
	put(t, units, "b", "1")
	both := loaded(t, 100, "a=x", "b")
	put(t, both, "a", "y")
	put(t, both, "a", "z")
	put(t, both, "b", "1")
	cut := loaded(t, 100, "a=xyzuvw", "b=1")
	must(t, cut.Cut("a", 3))
	synced := loaded(t, 100, "a=xyzuvw", "b=1")
	must(t, synced.Cut("a", 3))
	must(t, synced.Sync("a"))
	again := loaded(t, 100, "a=xx", "b=1")
	must(t, again.Cut("a", 1))
	put(t, again, "a", "yz")
	return []*Disk{safe, units, both, cut, synced, again}
}

func TestMemoryOfRead(t *testing.T) { // P11.14, R2
	for i, d := range states(t) {
		b, e := d.Read("a")
		again, _ := d.Read("a")
		answers(t, "Read", e, api.OK)
		spoil(again)
		if string(b) != "xyz" {
			t.Errorf("%d: two answers of Read share memory: %q", i, b)
		}
		spoil(b)
		seen(t, d, "a=xyz b=1")
		if i == 1 {
			crash(t, d, "a=xyz b=1", -1, -1, -1)
		}
		b, _ = d.Read("a")
		put(t, d, "a", "more") // into no answer's room
		must(t, d.Cut("a", 0))
		must(t, d.Sync("a"))
		put(t, d, "a", "other")
		must(t, d.Sync("a"))
		if string(b) != "xyz" {
			t.Errorf("%d: what Read told has changed: %q", i, b)
		}
	}
}

func TestMemoryOfCrash(t *testing.T) { // P11.14, R2
	for i, d := range states(t) {
		all := []int{-1, -1, -1}
		for _, picks := range [][]int{nil, all} {
			was := told(d.Crash(picks))
			img, again := d.Crash(picks), d.Crash(picks)
			for k := range again {
				spoil(again[k].Data)
				for j := range again {
					if j > k && string(again[j].Data) != string(img[j].Data) {
						t.Errorf("%d: files %d and %d of an image share memory", i, k, j)
					}
				}
			}
			clear(again[:cap(again)])
			if told(img) != was {
				t.Errorf("%d: two answers of Crash share memory: %q", i, told(img))
			}
			for _, f := range img {
				spoil(f.Data)
			}
			clear(img[:cap(img)])
			if now := told(d.Crash(picks)); now != was {
				t.Errorf("%d: an image shares the disk's memory: %q, was %q", i, now, was)
			}
		}
		seen(t, d, "a=xyz b=1")
		img := d.Crash(all)
		was := told(img)
		put(t, d, "a", "more")
		must(t, d.Cut("a", 0))
		must(t, d.Sync("a"))
		put(t, d, "a", "other")
		must(t, d.Sync("a"))
		if told(img) != was {
			t.Errorf("%d: an image has changed: %q", i, told(img))
		}
	}
}

func TestMemoryOfList(t *testing.T) { // P11.14, R2
	d := loaded(t, 100, "a", "b")
	list, _ := d.List()
	again, _ := d.List()
	clear(again[:cap(again)])
	if !slices.Equal(list, []string{"a", "b"}) {
		t.Errorf("two answers of List share memory: %q", list)
	}
	clear(list[:cap(list)])
	seen(t, d, "a= b=")
	list, _ = d.List()
	must(t, d.Remove("a"))
	put(t, d, "c", "")
	if !slices.Equal(list, []string{"a", "b"}) {
		t.Errorf("what List told has changed: %q", list)
	}
}

func TestTwoDisks(t *testing.T) { // P11.14: in turns
	img := image("a=x", "b=y")
	one, _ := Load(img, 100)
	two, _ := Load(img, 50)
	three := fresh(t, 10)
	one.Plan(api.Plan{Off: 4})
	two.Plan(api.Plan{FullFrom: 2, FullTo: 2})
	put(t, one, "a", "1")
	put(t, two, "a", "2")
	put(t, three, "a", "3")
	must(t, one.Sync("a"))
	answers(t, "full", two.Append("a", []byte("2")), api.ErrDiskFull)
	put(t, three, "a", "3")
	must(t, one.Rename("a", "c"))
	must(t, two.Remove("b"))
	must(t, three.SyncNames())
	answers(t, "off", one.SyncNames(), api.ErrDiskOff)
	seen(t, two, "a=x2")
	seen(t, three, "a=33")
	crash(t, one, "a=x1 b=y")
	crash(t, one, "b=y c=x1", 1)
	crash(t, two, "a=x b=y")
	crash(t, two, "a=x2", 1, 1)
	crash(t, three, "a=")
	strokes(t, one, 4)
	strokes(t, two, 3)
	strokes(t, three, 3)
	if one.Room() != 100 || two.Room() != 50 || three.Room() != 10 {
		t.Errorf("rooms: %d, %d, %d", one.Room(), two.Room(), three.Room())
	}
}

func TestMemoryIsBound(t *testing.T) { // R6: what is refused takes none
	long := make([]byte, 1<<24)
	d := fresh(t, 10)
	many := make([]api.FileBytes, 1<<16)
	for i := range many {
		many[i] = api.FileBytes{Name: "a", Data: long}
	}
	for what, call := range map[string]func(){
		"Append without room":  func() { d.Append("a", long) },
		"Append to a bad name": func() { d.Append("A", long) },
		"Load without room":    func() { Load(many[:1], 1<<23) },
		"Load of many":         func() { Load(many, api.MaxRoom) },
		"New":                  func() { New(api.MaxRoom) },
		"Crash":                func() { d.Crash(make([]int, 10)) },
	} {
		if n := taken(call); n > 1<<16 {
			t.Errorf("%s takes %d bytes", what, n)
		}
	}
	if !bytes.Equal(long, make([]byte, 1<<24)) {
		t.Error("what was handed in has changed")
	}
}

func TestGoneFilesAreLetGo(t *testing.T) { // LANGUAGE.md, 8: what is safe now is not kept as a change any more
	d := fresh(t, api.MaxRoom)
	put(t, d, "a", "x")
	must(t, d.Sync("a"))
	must(t, d.Rename("a", "b"))
	must(t, d.Remove("b"))
	must(t, d.SyncNames())
	for _, c := range d.changes[:cap(d.changes)] {
		if c != (change{}) {
			t.Errorf("a name change is kept: %+v", c)
		}
	}
	put(t, d, "a", "x")
	must(t, d.Cut("a", 0))
	put(t, d, "a", "y")
	must(t, d.Sync("a"))
	for _, s := range d.seen["a"].steps[:cap(d.seen["a"].steps)] {
		if s.bytes != nil || s.length != 0 {
			t.Errorf("units are kept: %+v", s)
		}
	}
}
