package ledger

import (
	"errors"

	"satchel/api"
)

func refused(op string, e api.Errno) error { return &api.Fault{Op: op, Err: e} }

// unread tells that bytes could not be read up to their end: the number is code's.
func unread(at int, e api.Errno) error { return &api.Fault{Op: "read", At: at, Err: e} }

// instead puts a number of this layer in the place of a lower one's; where the fault was stays told.
func instead(err error, e api.Errno) error {
	told := api.Fault{Err: e}
	var f *api.Fault
	if errors.As(err, &f) {
		told.Op, told.At = f.Op, f.At
	}
	return &told
}
