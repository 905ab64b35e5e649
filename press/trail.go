package press

const (
	shortestCopy = 3
	farthest     = 1 << 16 // the longest way back that can be told
	tries        = 256     // places that are looked at for a copy: so none of the last 256 is missed, and a block of so many bytes over and over is always found
	longEnough   = 64      // behind a copy of so many bytes no better one is looked for
	hashBits     = 15
)

// trail knows of a text where its pieces of shortestCopy bytes began so far: by a hash of the piece the last place, and by place the one ahead of it with the same hash. Each place is told as the one behind it, so that 0 is none.
type trail struct {
	text  []byte
	last  [1 << hashBits]int32
	ahead []int32
}

// stepsOf tells a text by bytes and copies; where one byte on a longer copy begins, the byte is told alone.
func stepsOf(text []byte) []step {
	t := &trail{text: text}
	var steps []step
	here := t.find(0)
	for at := 0; at < len(text); {
		var next step
		if here.length < longEnough {
			next = t.find(at + 1)
		}
		if here.way == 0 || next.length > here.length {
			steps = append(steps, step{length: 1, text: text[at]})
			at++
			here = next
			continue
		}
		steps = append(steps, here)
		at += here.length
		here = t.find(at)
	}
	return steps
}

// find tells the longest copy that begins at a place and pays, of those the nearest one; no step, if there is none.
func (t *trail) find(at int) step {
	t.note(at)
	var best step
	if len(t.text)-at < shortestCopy {
		return best
	}
	first := max(at-farthest, 0)
	behind := int(t.last[hash(t.text[at:])])
	for range tries {
		if behind <= first {
			break
		}
		place := behind - 1
		if length := t.alike(place, at, best.length); length > best.length {
			best = step{length: length, way: at - place}
		}
		behind = int(t.ahead[place])
	}
	if !pays(best) {
		return step{}
	}
	return best
}

// pays tells whether a copy takes hardly more bits than its bytes would: the farther back it is, the longer it must be.
func pays(s step) bool {
	return s.length >= shortestCopy && s.way <= 1<<(4*min(s.length, shortestCopy+1))
}

// note takes in the places ahead of one that are not known yet.
func (t *trail) note(at int) {
	for place := len(t.ahead); place < min(at, len(t.text)-shortestCopy+1); place++ {
		h := hash(t.text[place:])
		t.ahead = append(t.ahead, t.last[h])
		t.last[h] = int32(place + 1)
	}
}

// alike tells how many bytes at two places are the same; 0, if no more than so many.
func (t *trail) alike(place, at, above int) int {
	text := t.text[at:]
	// Most places fail here: without it all of them would be gone through to their ends.
	if above == len(text) || t.text[place+above] != text[above] {
		return 0
	}
	for i, b := range text {
		if t.text[place+i] != b {
			return i
		}
	}
	return len(text)
}

func hash(piece []byte) int {
	return (int(piece[0])<<10 ^ int(piece[1])<<5 ^ int(piece[2])) & (1<<hashBits - 1)
}
