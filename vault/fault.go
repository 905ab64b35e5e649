package vault

import (
	"bytes"
	"errors"
	"slices"

	"satchel/api"
)

// refused tells that something could not be done, why, at which place of a list, and which ids that is about.
func refused(op string, at int, e api.Errno, ids ...api.ID) error {
	return &api.Fault{Op: op, At: at, IDs: sortedIDs(ids), Err: e}
}

// isOff tells whether an error is that of a disk, or of a journal, that has met the power off.
func isOff(err error) bool {
	var f *api.Fault
	return errors.As(err, &f) && (errors.Is(f, api.ErrDiskOff) || errors.Is(f, api.ErrJournalOff))
}

// sortedIDs tells ids sorted, each once, in new memory.
func sortedIDs(ids []api.ID) []api.ID {
	list := slices.Clone(ids)
	slices.SortFunc(list, compareIDs)
	return slices.Compact(list)
}

func compareIDs(a, b api.ID) int { return bytes.Compare(a[:], b[:]) }
