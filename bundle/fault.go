package bundle

import (
	"bytes"
	"errors"
	"slices"

	"satchel/api"
)

// refused tells that something could not be done, why, and which ids that is about.
func refused(op string, e api.Errno, ids ...api.ID) error {
	return &api.Fault{Op: op, IDs: sortedIDs(ids), Err: e}
}

// naming names the bases that are not there, if it is for them that a pack is refused.
func naming(err error, lost []api.ID) error {
	var f *api.Fault
	if errors.Is(err, api.ErrPackBase) && errors.As(err, &f) {
		f.IDs = lost
	}
	return err
}

// sortedIDs tells ids sorted, each once, in new memory.
func sortedIDs(ids []api.ID) []api.ID {
	list := slices.Clone(ids)
	slices.SortFunc(list, compareIDs)
	return slices.Compact(list)
}

func compareIDs(a, b api.ID) int { return bytes.Compare(a[:], b[:]) }
