package vault

import (
	"bytes"
	"maps"
	"slices"
	"strings"

	"satchel/api"
	"satchel/object"
)

// change is what of a transaction changes something: objects sorted by id, refs by name, notes by key, and the vault's number behind it.
type change struct {
	api.Txn
	number uint64
}

func (c change) isNothing() bool { return len(c.Objects)+len(c.Refs)+len(c.Notes) == 0 }

// fresh is an object of a transaction that the vault has not.
type fresh struct {
	enc  []byte
	kind int
}

// plan tells what a transaction changes, or why it is refused. The change shares memory with the transaction: it lives no longer than the call.
func (s *state) plan(t api.Txn) (change, error) {
	objects, err := s.planObjects(t.Objects)
	if err != nil {
		return change{}, err
	}
	if err := s.checkChildren(objects); err != nil {
		return change{}, err
	}
	refs, err := s.planRefs(t.Refs, objects)
	if err != nil {
		return change{}, err
	}
	notes, err := s.planNotes(t.Notes)
	if err != nil {
		return change{}, err
	}
	c := change{Txn: api.Txn{Refs: refs, Notes: notes}, number: s.number + 1}
	for _, id := range slices.SortedFunc(maps.Keys(objects), compareIDs) {
		c.Objects = append(c.Objects, objects[id].enc)
	}
	return c, nil
}

// planObjects tells those of a transaction's objects that are new.
func (s *state) planObjects(list [][]byte) (map[api.ID]fresh, error) {
	objects := map[api.ID]fresh{}
	for i, enc := range list {
		o, e := object.Parse(enc)
		if e != api.OK {
			return nil, refused("take an object", i, api.ErrVaultObject)
		}
		if err := s.take(object.Id(enc), fresh{enc, o.Kind}, objects); err != nil {
			return nil, err
		}
	}
	return objects, nil
}

// take brings an object to the new ones, unless it is there already.
func (s *state) take(id api.ID, f fresh, objects map[api.ID]fresh) error {
	there, found := s.encoding(id, objects)
	if !found {
		objects[id] = f
		return nil
	}
	if !bytes.Equal(there, f.enc) {
		return refused("take an object", 0, api.ErrVaultClash, id)
	}
	return nil
}

// encoding tells that of an object, and whether it is there: among the new ones or in the vault.
func (s *state) encoding(id api.ID, objects map[api.ID]fresh) ([]byte, bool) {
	if f, ok := objects[id]; ok {
		return f.enc, true
	}
	enc, e := s.objects.Get(id)
	return enc, e == api.OK
}

// kind tells that of an object among the new ones or in the vault; KindNone, if it isn't there.
func (s *state) kind(id api.ID, objects map[api.ID]fresh) int {
	if f, ok := objects[id]; ok {
		return f.kind
	}
	return s.kinds[id]
}

// checkChildren holds that the vault is closed with these objects in it.
func (s *state) checkChildren(objects map[api.ID]fresh) error {
	var missing, odd []api.ID
	for _, f := range objects {
		links, _ := object.Children(f.enc)
		for _, link := range links {
			switch s.kind(link.ID, objects) {
			case link.Kind:
			case api.KindNone:
				missing = append(missing, link.ID)
			default:
				odd = append(odd, link.ID)
			}
		}
	}
	if len(missing) > 0 {
		return refused("look for children", 0, api.ErrVaultMissing, missing...)
	}
	if len(odd) > 0 {
		return refused("look for children", 0, api.ErrVaultKind, odd...)
	}
	return nil
}

// planRefs tells those of a transaction's refs that move.
func (s *state) planRefs(list []api.RefChange, objects map[api.ID]fresh) ([]api.RefChange, error) {
	var moved []api.RefChange
	met := map[string]int{}
	for i, r := range list {
		met[r.Name]++
		at := s.at(r.Name)
		switch {
		case !isName(r.Name):
			return nil, refused("move a ref", i, api.ErrVaultName)
		case met[r.Name] > 1:
			return nil, refused("move a ref", i, api.ErrVaultTwice)
		case at != r.Old && at == api.ID{}:
			return nil, refused("move a ref", i, api.ErrVaultOld)
		case at != r.Old:
			return nil, refused("move a ref", i, api.ErrVaultOld, at)
		case r.New != api.ID{} && s.kind(r.New, objects) == api.KindNone:
			return nil, refused("move a ref", i, api.ErrVaultTarget, r.New)
		}
		if r.New != r.Old {
			moved = append(moved, r)
		}
	}
	slices.SortFunc(moved, func(a, b api.RefChange) int { return strings.Compare(a.Name, b.Name) })
	return moved, nil
}

// planNotes tells those of a transaction's notes that become others.
func (s *state) planNotes(list []api.Note) ([]api.Note, error) {
	var changed []api.Note
	met := map[string]int{}
	for i, n := range list {
		met[n.Key]++
		switch {
		case !isName(n.Key) || len(n.Value) > api.MaxNote:
			return nil, refused("write a note", i, api.ErrVaultNote)
		case met[n.Key] > 1:
			return nil, refused("write a note", i, api.ErrVaultTwice)
		}
		if !bytes.Equal(n.Value, s.notes[n.Key]) { // a note that isn't there is as one with an empty value
			changed = append(changed, n)
		}
	}
	slices.SortFunc(changed, func(a, b api.Note) int { return strings.Compare(a.Key, b.Key) })
	return changed, nil
}

// isName tells whether a ref, or a note, may be called so.
func isName(name string) bool { return len(name) >= 1 && len(name) <= api.MaxName }

// admit tells why a change cannot be made, though nothing is wrong with it.
func (s *state) admit(c change) error {
	if s.number >= api.MaxSeq {
		return refused("count a transaction", 0, api.ErrVaultSeq)
	}
	if !s.behind(c).hasRoom() {
		return refused("find room", 0, api.ErrVaultFull)
	}
	return nil
}
