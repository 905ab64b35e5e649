package vault

import (
	"bytes"
	"maps"
	"slices"

	"satchel/api"
	"satchel/store"
	"satchel/walk"
)

// state is what a vault keeps: it is closed, and has room.
type state struct {
	objects *store.Store
	kinds   map[api.ID]int        // of the objects: a store reads all of one to tell its kind, and a tree may name many
	logs    map[string][]api.Move // of the refs, by name: a ref is where its log ends
	notes   map[string][]byte
	number  uint64
	load    load
}

func newState() *state {
	return &state{objects: store.New(), kinds: map[api.ID]int{}, logs: map[string][]api.Move{}, notes: map[string][]byte{}}
}

// at tells where a ref is; the zero id, if there is none of that name.
func (s *state) at(name string) api.ID { return endOf(s.logs[name]) }

// endOf tells where a log ends; one without lines nowhere.
func endOf(log []api.Move) api.ID {
	if len(log) == 0 {
		return api.ID{}
	}
	return log[len(log)-1].New
}

// names tells the names of all refs, keys those of all notes, sorted.
func (s *state) names() []string { return slices.Sorted(maps.Keys(s.logs)) }

func (s *state) keys() []string { return slices.Sorted(maps.Keys(s.notes)) }

// behind tells the load of the state behind a change.
func (s *state) behind(c change) load {
	sum := s.load
	for _, enc := range c.Objects {
		sum = sum.plus(objectLoad(enc))
	}
	for _, r := range c.Refs {
		was, is := len(s.logs[r.Name]), 0
		if r.New != (api.ID{}) {
			is = min(was+1, api.MaxMoves)
		}
		sum = sum.minus(refLoad(r.Name, was)).plus(refLoad(r.Name, is))
	}
	for _, n := range c.Notes {
		sum = sum.minus(noteLoad(n.Key, s.notes[n.Key])).plus(noteLoad(n.Key, n.Value))
	}
	return sum
}

// carry carries out a change that was planned for this state.
func (s *state) carry(c change) {
	s.load = s.behind(c)
	s.number = c.number
	for _, enc := range c.Objects {
		id, _, _ := s.objects.Put(enc)
		s.kinds[id], _ = s.objects.Kind(id)
	}
	for _, r := range c.Refs {
		s.move(r)
	}
	for _, n := range c.Notes {
		if len(n.Value) == 0 {
			delete(s.notes, n.Key)
			continue
		}
		s.notes[n.Key] = bytes.Clone(n.Value)
	}
}

// move brings a ref from Old to New, as a part of the transaction that has the state's number.
func (s *state) move(r api.RefChange) {
	if r.New == (api.ID{}) {
		delete(s.logs, r.Name)
		return
	}
	log := append(s.logs[r.Name], api.Move{Number: s.number, Old: r.Old, New: r.New})
	s.logs[r.Name] = slices.Delete(log, 0, max(len(log)-api.MaxMoves, 0))
}

// swept tells the state without the objects that no ref leads to. It shares refs, logs and notes with this one: only one of the two goes on.
func (s *state) swept() *state {
	kept := *s
	kept.objects, kept.kinds = s.objects.Copy(), map[api.ID]int{}
	var roots []api.ID
	for _, log := range s.logs {
		roots = append(roots, endOf(log))
	}
	reached, _ := walk.Reach(s.objects, roots) // what is closed has no error there
	for _, id := range reached {
		kept.kinds[id] = s.kinds[id]
	}
	for id, enc := range s.objects.All() {
		if kept.kinds[id] == api.KindNone {
			kept.objects.Remove(id)
			kept.load = kept.load.minus(objectLoad(enc))
		}
	}
	return &kept
}
