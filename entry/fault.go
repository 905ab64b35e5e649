package entry

import (
	"errors"
	"slices"

	"satchel/api"
)

// refused tells that a bundle is refused, why, and which ids that is about.
func refused(op string, e api.Errno, ids ...api.ID) error {
	return &api.Fault{Op: op, IDs: ids, Err: e}
}

// handed hands on what a lower layer has refused, with the ids that it is about.
func handed(op string, err error) error {
	told := api.Fault{Op: op, Err: err}
	var f *api.Fault
	if errors.As(err, &f) {
		told.At, told.IDs = f.At, slices.Clone(f.IDs)
	}
	return &told
}
