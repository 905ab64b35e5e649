package vault

import (
	"satchel/api"
	"satchel/code"
)

// A transaction of the journal is one part; with these it begins.
const (
	markChange = iota + 1
	markWhole
)

// record is what a transaction of the journal tells: a change or a whole state.
type record interface {
	// text tells its bytes. There is one text for each: what a vault reads must be just what it would write.
	text() []byte
}

// whole is a state as a record: objects sorted by id, refs by name, notes by key.
type whole struct {
	number  uint64
	objects [][]byte
	refs    []logged
	notes   []api.Note
}

// logged is a ref with its log, at whose end it is.
type logged struct {
	name string
	log  []api.Move
}

// whole tells the state as a record, which shares memory with it.
func (s *state) whole() whole {
	w := whole{number: s.number}
	for _, enc := range s.objects.All() {
		w.objects = append(w.objects, enc)
	}
	for _, name := range s.names() {
		w.refs = append(w.refs, logged{name, s.logs[name]})
	}
	for _, key := range s.keys() {
		w.notes = append(w.notes, api.Note{Key: key, Value: s.notes[key]})
	}
	return w
}

func (c change) text() []byte {
	w := code.New()
	w.U8(markChange)
	w.Var(c.number)
	writeList(w, c.Objects, w.Bytes)
	writeList(w, c.Refs, func(r api.RefChange) { // where it comes from the state tells
		w.Bytes([]byte(r.Name))
		w.Raw(r.New[:])
	})
	writeList(w, c.Notes, noteTo(w))
	return w.Out()
}

func (s whole) text() []byte {
	w := code.New()
	w.U8(markWhole)
	w.Var(s.number)
	writeList(w, s.objects, w.Bytes)
	writeList(w, s.refs, func(l logged) {
		w.Bytes([]byte(l.name))
		w.Raw(l.log[0].Old[:])
		writeList(w, l.log, func(m api.Move) { // each line begins where the one ahead of it ends
			w.Var(m.Number)
			w.Raw(m.New[:])
		})
	})
	writeList(w, s.notes, noteTo(w))
	return w.Out()
}

// noteTo makes what writes a note.
func noteTo(w *code.Writer) func(n api.Note) {
	return func(n api.Note) {
		w.Bytes([]byte(n.Key))
		w.Bytes(n.Value)
	}
}

func writeList[T any](w *code.Writer, list []T, write func(T)) {
	w.Var(uint64(len(list)))
	for _, item := range list {
		write(item)
	}
}

// readRecord tells what a transaction of the journal tells; nil, if it is nothing that a vault has written.
func readRecord(parts [][]byte) record {
	if len(parts) != 1 {
		return nil
	}
	r := code.Read(parts[0])
	var found record
	switch r.U8() {
	case markChange:
		found = readChange(r)
	case markWhole:
		found = readWhole(r)
	}
	if r.End() != api.OK {
		return nil
	}
	return found
}

// readChange leaves out where the refs come from. A change may take away as many refs and notes as a state has, and make as many others.
func readChange(r *code.Reader) change {
	c := change{number: r.Var(api.MaxSeq)}
	c.Objects = readList(r, api.MaxStore, func() []byte { return r.Bytes(api.MaxObject) })
	c.Refs = readList(r, 2*api.MaxRefs, func() api.RefChange {
		return api.RefChange{Name: readName(r), New: readID(r)}
	})
	c.Notes = readList(r, 2*api.MaxNotes, noteFrom(r))
	return c
}

func readWhole(r *code.Reader) whole {
	s := whole{number: r.Var(api.MaxSeq)}
	s.objects = readList(r, api.MaxStore, func() []byte { return r.Bytes(api.MaxObject) })
	s.refs = readList(r, api.MaxRefs, func() logged { return logged{readName(r), readLog(r)} })
	s.notes = readList(r, api.MaxNotes, noteFrom(r))
	return s
}

func readLog(r *code.Reader) []api.Move {
	at := readID(r)
	return readList(r, api.MaxMoves, func() api.Move {
		m := api.Move{Number: r.Var(api.MaxSeq), Old: at, New: readID(r)}
		at = m.New
		return m
	})
}

// noteFrom makes what reads a note.
func noteFrom(r *code.Reader) func() api.Note {
	return func() api.Note { return api.Note{Key: readName(r), Value: r.Bytes(api.MaxNote)} }
}

func readName(r *code.Reader) string { return string(r.Bytes(api.MaxName)) }

func readID(r *code.Reader) api.ID {
	var id api.ID
	copy(id[:], r.Raw(len(id)))
	return id
}

// readList reads a list of at most so many items.
func readList[T any](r *code.Reader, most uint64, read func() T) []T {
	var list []T
	for range r.Var(most) {
		if r.Fault() != api.OK {
			return nil
		}
		list = append(list, read())
	}
	return list
}
