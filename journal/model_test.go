package journal

import (
	"fmt"
	"math/rand"
	"strings"
	"testing"

	"satchel/api"
	"satchel/disk"
)

// plain is a journal by the chapter's words: what it tells, and what is seen on its disk.
type plain struct {
	txns          [][]string
	next          uint64
	torn, ok, off bool
	file, second  string
	there, beside bool // whether the two files are there
	room          int
	plan          api.Plan
	number        int // of strokes since the plan was made
}

// good tells the good part of the file.
func (p *plain) good() string {
	text := ""
	for i, txn := range p.txns {
		text += rec(p.next-uint64(len(p.txns)-i), txn...)
	}
	return text
}

// stroke tells the answer of a disk call that is carried out, an Append of size bytes if that is not below 0.
func (p *plain) stroke(size int) api.Errno {
	p.number++
	switch {
	case p.number == p.plan.Off:
		return api.ErrDiskOff
	case size < 0:
		return api.OK
	case p.plan.FullFrom >= 1 && p.plan.FullFrom <= p.number && p.number <= p.plan.FullTo:
		return api.ErrDiskFull
	case len(p.file)+len(p.second)+size > p.room:
		return api.ErrDiskFull
	}
	return api.OK
}

func (p *plain) refusal(texts []string) api.Errno {
	size := 50
	for _, s := range texts {
		size += len(s) + 4
	}
	switch {
	case p.off:
		return api.ErrJournalOff
	case len(texts) > 8192 || size > 1<<23 || p.next > 1<<40: // no text here comes near to the second
		return api.ErrJournalLong
	}
	return api.OK
}

// meet notes an answer, as the last one of a call.
func (p *plain) meet(e api.Errno) api.Errno {
	p.off = p.off || e == api.ErrDiskOff
	p.ok = p.ok || e == api.OK
	return e
}

func (p *plain) add(texts []string) api.Errno {
	if e := p.refusal(texts); e != api.OK {
		return e
	}
	if p.torn {
		if e := p.stroke(-1); e != api.OK {
			return p.meet(e)
		}
		p.file, p.torn = p.good(), false
	}
	one := rec(p.next, texts...)
	if e := p.stroke(len(one)); e != api.OK {
		return p.meet(e)
	}
	p.file, p.there = p.file+one, true
	if e := p.stroke(-1); e != api.OK {
		return p.meet(e)
	}
	if !p.ok {
		if e := p.stroke(-1); e != api.OK {
			return p.meet(e)
		}
	}
	p.txns, p.next = append(p.txns, texts), p.next+1
	return p.meet(api.OK)
}

func (p *plain) checkpoint(texts []string) api.Errno {
	if e := p.refusal(texts); e != api.OK {
		return e
	}
	if p.beside {
		if e := p.stroke(-1); e != api.OK {
			return p.meet(e)
		}
		p.beside, p.second = false, ""
	}
	one := rec(p.next, texts...)
	if e := p.stroke(len(one)); e != api.OK {
		return p.meet(e)
	}
	p.beside, p.second = true, one
	for range 3 { // Sync, Rename, SyncNames
		if e := p.stroke(-1); e != api.OK {
			return p.meet(e)
		}
	}
	p.file, p.there, p.beside, p.second = one, true, false, ""
	p.txns, p.next, p.torn = [][]string{texts}, p.next+1, false
	return p.meet(api.OK)
}

func (p *plain) state() string { return fmt.Sprintf("%q before %d", p.txns, p.next) }

func (p *plain) seen() string {
	var words []string
	if p.there {
		words = append(words, "j", p.file)
	}
	if p.beside {
		words = append(words, "j.new", p.second)
	}
	return told(image(words...))
}

// history is the transactions that a journal has, and the next one's number.
type history struct {
	txns [][]string
	next uint64
}

const little = 700 // the room of the drawn disks: they are full now and then

// left tells the model that is opened over files.
func left(img []api.FileBytes, now history) *plain {
	p := &plain{txns: now.txns, next: now.next, room: roomFor(img)}
	for _, f := range img {
		switch f.Name {
		case "j":
			p.file, p.there = string(f.Data), true
		case "j.new":
			p.second, p.beside = string(f.Data), true
		}
	}
	p.torn = p.file != p.good()
	return p
}

// roomFor tells a room for an image, which may have more bytes than its disk had room.
func roomFor(img []api.FileBytes) int {
	sum := 0
	for _, f := range img {
		sum += len(f.Data)
	}
	return max(little, sum)
}

func drawnTexts(r *rand.Rand) []string {
	if r.Intn(40) == 0 {
		return make([]string, 8193)
	}
	texts := make([]string, r.Intn(4))
	for i := range texts {
		texts[i] = strings.Repeat(string([]byte{byte(r.Intn(256))}), r.Intn(6))
	}
	if r.Intn(20) == 0 {
		texts = append(texts, strings.Repeat("x", 120+r.Intn(20)))
	}
	return texts
}

func drawnPlan(r *rand.Rand) api.Plan {
	p := api.Plan{FullFrom: r.Intn(9), FullTo: r.Intn(9)}
	if r.Intn(3) == 0 {
		p.Off = r.Intn(9)
	}
	return p
}

// TestDrawn holds drawn rows of calls against the model, through many crashes.
func TestDrawn(t *testing.T) { // P12.1 to P12.5
	for seed := range 400 {
		r := rand.New(rand.NewSource(int64(seed)))
		d := loaded(t, little, nil)
		j, p := opened(t, d, "j"), left(nil, history{nil, 1})
		for step := range 60 {
			what := fmt.Sprintf("seed %d, step %d", seed, step)
			if r.Intn(4) == 0 && !p.off {
				p.plan, p.number = drawnPlan(r), 0
				d.Plan(p.plan)
			}
			was := history{p.txns, p.next}
			texts := drawnTexts(r)
			becomes := history{[][]string{texts}, p.next + 1}
			var got, want api.Errno
			if r.Intn(4) == 0 {
				got, want = j.Checkpoint(parts(texts...)), p.checkpoint(texts)
			} else {
				becomes.txns = append(append([][]string{}, p.txns...), texts)
				got, want = j.Add(parts(texts...)), p.add(texts)
			}
			answers(t, what, got, want)
			holds(t, what, j, p.state(), p.torn)
			if want != api.ErrDiskOff && want != api.ErrJournalOff && told(seen(d)) != p.seen() {
				t.Errorf("%s: %s is seen, want %s", what, told(seen(d)), p.seen())
			}
			if t.Failed() {
				return
			}
			if want == api.ErrDiskOff || r.Intn(15) == 0 {
				d, j, p = goneOff(t, r, what, d, want, was, becomes)
			}
		}
	}
}

// goneOff opens what a drawn crash leaves behind a call with that answer, and the model of it.
func goneOff(t *testing.T, r *rand.Rand, what string, d *disk.Disk, e api.Errno, was, becomes history) (*disk.Disk, *Journal, *plain) {
	t.Helper()
	img := d.Crash([]int{r.Intn(5), r.Intn(400), r.Intn(400)})
	next := loaded(t, roomFor(img), img)
	j := opened(t, next, "j")
	now := was
	if e == api.OK || e == api.ErrDiskOff && state(j) == left(img, becomes).state() {
		now = becomes
	}
	p := left(img, now)
	holds(t, what+", crashed", j, p.state(), p.torn)
	return next, j, p
}
