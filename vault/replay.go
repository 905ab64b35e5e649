package vault

import (
	"bytes"

	"satchel/api"
)

// replay tells the state that a journal's transactions give, one behind the other; false, if a vault has not written them.
func replay(all [][][]byte) (*state, bool) {
	s := newState()
	for i, parts := range all {
		right := false
		switch r := readRecord(parts).(type) {
		case change:
			right = s.follow(r, parts[0])
		case whole:
			// A Checkpoint puts it in the place of all, so none stands ahead of it.
			s, right = r.state(parts[0])
			right = right && i == 0
		}
		if !right {
			return nil, false
		}
	}
	return s, true
}

// follow carries out a change that was read from a text; false, if a vault in this state would not have written just that.
func (s *state) follow(read change, text []byte) bool {
	for i, r := range read.Refs {
		read.Refs[i].Old = s.at(r.Name)
	}
	c, err := s.plan(read.Txn)
	if err != nil || c.isNothing() || s.admit(c) != nil || !bytes.Equal(c.text(), text) {
		return false
	}
	s.carry(c)
	return true
}

// state tells the state that was read from a text; false, if a vault would not have written just that. It is made by one change, which holds that it is closed, and then given its logs and its number.
func (w whole) state(text []byte) (*state, bool) {
	t := api.Txn{Objects: w.objects, Notes: w.notes}
	for _, l := range w.refs {
		if !isLog(l.log, w.number) {
			return nil, false
		}
		t.Refs = append(t.Refs, api.RefChange{Name: l.name, New: endOf(l.log)})
	}
	s := newState()
	c, err := s.plan(t)
	if err != nil || w.number == 0 && !c.isNothing() {
		return nil, false
	}
	s.carry(c)
	s.number = w.number
	for _, l := range w.refs {
		s.load = s.load.minus(refLoad(l.name, len(s.logs[l.name]))).plus(refLoad(l.name, len(l.log)))
		s.logs[l.name] = l.log
	}
	return s, s.load.hasRoom() && bytes.Equal(s.whole().text(), text)
}

// isLog tells whether a ref of a vault with that number may have moved so.
func isLog(log []api.Move, number uint64) bool {
	if len(log) < 1 || len(log) > api.MaxMoves {
		return false
	}
	last := uint64(0) // the number of the line ahead
	if log[0].Old != (api.ID{}) {
		if len(log) < api.MaxMoves {
			return false // only of a full log a line has gone: the one by which the ref was made
		}
		last = 1 // that one's, at least
	}
	for _, m := range log {
		if m.New == m.Old || m.New == (api.ID{}) || m.Number <= last || m.Number > number {
			return false
		}
		last = m.Number
	}
	return true
}
