package journal

import "satchel/api"

// step is one of the things that a call does, one behind the other.
type step func() api.Errno

// of makes a step of a call that takes a file's name, with one of a call that takes something more.
func of(call func(name string) api.Errno, name string) step {
	return func() api.Errno { return call(name) }
}

func with[T any](call func(name string, what T) api.Errno, name string, what T) step {
	return func() api.Errno { return call(name, what) }
}

// noting makes a step that the disk has no part in: it is come to only if all steps ahead of it were carried out.
func noting(note func()) step {
	return func() api.Errno {
		note()
		return api.OK
	}
}

// carryOut carries out steps till one is refused.
func carryOut(row []step) api.Errno {
	for _, s := range row {
		if e := s(); e != api.OK {
			return e
		}
	}
	return api.OK
}
