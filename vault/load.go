package vault

import "satchel/api"

const (
	itemWeight = 64 // of an object, a ref, a note, beside its bytes
	lineWeight = 96 // of a log's line
)

// load is how many things there are, and what they weigh together.
type load struct {
	objects, refs, notes, weight int
}

func objectLoad(enc []byte) load {
	return load{objects: 1, weight: len(enc) + itemWeight}
}

// refLoad tells that of a ref with so many lines in its log; without lines there is no ref.
func refLoad(name string, lines int) load {
	if lines == 0 {
		return load{}
	}
	return load{refs: 1, weight: len(name) + itemWeight + lines*lineWeight}
}

// noteLoad tells that of a note; with an empty value there is none.
func noteLoad(key string, value []byte) load {
	if len(value) == 0 {
		return load{}
	}
	return load{notes: 1, weight: len(key) + len(value) + itemWeight}
}

func (l load) plus(m load) load {
	return load{l.objects + m.objects, l.refs + m.refs, l.notes + m.notes, l.weight + m.weight}
}

func (l load) minus(m load) load {
	return load{l.objects - m.objects, l.refs - m.refs, l.notes - m.notes, l.weight - m.weight}
}

func (l load) hasRoom() bool {
	return l.objects <= api.MaxStore && l.refs <= api.MaxRefs && l.notes <= api.MaxNotes && l.weight <= api.MaxKept
}
