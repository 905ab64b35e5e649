package delta

import (
	"math/bits"

	"satchel/code"
)

const (
	pieceSize  = 4  // shorter copies hardly pay
	mostPlaces = 32 // so many places of one piece are tried: it may stand everywhere in the base
	none       = -1 // no place
)

// piece is a few bytes of the base by which a longer stretch of it is found.
type piece [pieceSize]byte

// index tells where the pieces of a base begin: by piece the first place, by place the next one of the same piece.
type index struct {
	first map[piece]int
	next  []int
}

// stretch is a part of the base.
type stretch struct {
	place, length int
}

// maker writes a delta.
type maker struct {
	base, target []byte
	out          *code.Writer
}

func begin(base, target []byte) *maker {
	m := &maker{base: base, target: target, out: code.New()}
	m.out.Var(uint64(len(base)))
	m.out.Var(uint64(len(target)))
	return m
}

// ends tells how many bytes at the target's beginning, and how many at its end, are to be copied from the base's. They are settled ahead of all that is between them, and that bounds the delta: beside the new bytes between the ends it takes at most 6 bytes for the lengths, 3 for one command of new bytes, 5 and 7 for the ends (copied, or too short to be); what is found between them makes it only shorter.
func (m *maker) ends() (head, tail int) {
	head = alike(m.base, m.target)
	tail = alikeAtEnd(m.base[head:], m.target[head:])
	if m.gain(stretch{place: 0, length: head}) <= 0 {
		head = 0
	}
	if m.gain(stretch{place: len(m.base) - tail, length: tail}) <= 0 {
		tail = 0
	}
	return head, tail
}

// middle tells a part of the target by copies that pay, and new bytes between them.
func (m *maker) middle(text []byte) {
	if len(text) < pieceSize {
		m.fresh(text)
		return
	}
	x := indexed(m.base)
target:
	for len(text) > 0 {
		for at := range text {
			found := m.best(x, text[at:])
			if found.length == 0 {
				continue
			}
			m.fresh(text[:at])
			m.copied(found.place, found.length)
			text = text[at+found.length:]
			continue target
		}
		m.fresh(text)
		return
	}
}

// best tells the stretch of the base with which a text begins and that gains the most as a copy; none, if none gains.
func (m *maker) best(x index, text []byte) stretch {
	var best stretch
	most := 0
	place := x.find(text)
	for range mostPlaces {
		if place == none {
			break
		}
		s := stretch{place: place, length: alike(m.base[place:], text)}
		if gain := m.gain(s); gain > most {
			best, most = s, gain
		}
		place = x.next[place]
	}
	return best
}

// gain tells how many bytes a copy takes less than new bytes would, even if it parts a run of these, and the second part needs a length of its own.
func (m *maker) gain(s stretch) int {
	return s.length - width(2*s.length+1) - width(s.place) - width(2*len(m.target))
}

// copied and fresh write a command; one of no bytes is none.
func (m *maker) copied(place, length int) {
	if length > 0 {
		m.out.Var(uint64(2*length + 1))
		m.out.Var(uint64(place))
	}
}

func (m *maker) fresh(text []byte) {
	if len(text) > 0 {
		m.out.Var(uint64(2 * len(text)))
		m.out.Raw(text)
	}
}

// indexed goes from the end to the beginning, so that the least place of a piece comes first: the most may be copied from there, and its number is the shortest.
func indexed(base []byte) index {
	x := index{first: make(map[piece]int), next: make([]int, len(base))}
	for place := len(base) - pieceSize; place >= 0; place-- {
		x.next[place] = x.find(base[place:])
		x.first[pieceOf(base[place:])] = place
	}
	return x
}

// find tells the first place of the piece with which a text begins.
func (x index) find(text []byte) int {
	if len(text) < pieceSize {
		return none
	}
	if place, ok := x.first[pieceOf(text)]; ok {
		return place
	}
	return none
}

func pieceOf(text []byte) piece {
	var p piece
	copy(p[:], text)
	return p
}

// alike tells how many bytes two texts have in common at their beginnings.
func alike(a, b []byte) int {
	most := min(len(a), len(b))
	for i := range most {
		if a[i] != b[i] {
			return i
		}
	}
	return most
}

func alikeAtEnd(a, b []byte) int {
	most := min(len(a), len(b))
	for i := range most {
		if a[len(a)-1-i] != b[len(b)-1-i] {
			return i
		}
	}
	return most
}

// width tells how many bytes a Var takes.
func width(n int) int {
	return (bits.Len(uint(n)|1) + 6) / 7
}
