package ledger

import (
	"slices"

	"satchel/api"
)

// planned tells the stamps of the next bundle.
func planned(l api.Ledger, refs []api.Ref) ([]api.Stamp, api.Errno) {
	if !mayBe(l) {
		return nil, api.ErrLedgerForm
	}
	named := merged(byName, pointing(refs))
	switch {
	case len(named) > api.MaxRefs:
		return nil, api.ErrLedgerMany
	case slices.ContainsFunc(named, isOdd):
		return nil, api.ErrLedgerForm
	case l.Next > api.MaxSeq:
		return nil, api.ErrLedgerSeq
	}
	stamps := merged(byName, named, gone(l.Refs))
	if len(stamps) > api.MaxStamps {
		return nil, api.ErrLedgerMany
	}
	for i, stamp := range stamps {
		stamps[i] = numbered(stamp, l.Refs, l.Next)
	}
	return stamps, api.OK
}

// pointing tells refs as stamps that have no number yet.
func pointing(refs []api.Ref) []api.Stamp {
	stamps := make([]api.Stamp, 0, len(refs))
	for _, ref := range refs {
		stamps = append(stamps, api.Stamp{Name: ref.Name, ID: ref.ID})
	}
	return stamps
}

// isOdd tells whether a stamp's ref may not be.
func isOdd(stamp api.Stamp) bool { return !isName(stamp.Name) || stamp.ID == (api.ID{}) }

// gone tells stamps as if all their refs were gone.
func gone(stamps []api.Stamp) []api.Stamp {
	list := make([]api.Stamp, 0, len(stamps))
	for _, stamp := range stamps {
		list = append(list, api.Stamp{Name: stamp.Name})
	}
	return list
}

// numbered gives a stamp the number that it had, if nothing else of it has changed; else the next one.
func numbered(stamp api.Stamp, old []api.Stamp, next uint64) api.Stamp {
	if at, there := slices.BinarySearchFunc(old, stamp, byName); there {
		stamp.Seq = old[at].Seq
		if stamp == old[at] {
			return stamp
		}
	}
	stamp.Seq = next
	return stamp
}

// targets tells the ids of the stamps whose refs are not gone, sorted, each once.
func targets(stamps []api.Stamp) []api.ID {
	var ids []api.ID
	for _, stamp := range stamps {
		if stamp.ID != (api.ID{}) {
			ids = append(ids, stamp.ID)
		}
	}
	return merged(byID, ids)
}
