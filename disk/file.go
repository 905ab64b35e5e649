package disk

// row is bytes on which steps are carried out.
type row struct {
	bytes []byte
}

func (r *row) carry(s step) {
	if s.isCut() {
		r.bytes = r.bytes[:s.length]
		return
	}
	r.bytes = append(r.bytes, s.bytes...)
}

// step is units that were made one behind the other: bytes that were appended, a unit each; or, without bytes, one cut to a length. (So what is kept of an appended byte is little more than the byte.)
type step struct {
	bytes  []byte
	length int
}

func (s step) isCut() bool { return len(s.bytes) == 0 }

func (s step) units() int { return max(len(s.bytes), 1) }

// first tells the step without the units behind the first n, which is 1 or more.
func (s step) first(n int) step {
	return step{bytes: s.bytes[:min(n, len(s.bytes))], length: s.length}
}

// file embeds what of it is safe.
type file struct {
	row
	steps []step // not safe yet, in the order in which they were made
	size  int    // of what is seen: with all steps carried out
}

// safeFile makes a file of bytes that are safe.
func safeFile(b []byte) *file { return &file{row: row{copied(b)}, size: len(b)} }

// add makes units of appended bytes.
func (f *file) add(b []byte) {
	if len(b) == 0 {
		return // a step without bytes would be a cut
	}
	f.size += len(b)
	last := len(f.steps) - 1
	if last < 0 || f.steps[last].isCut() {
		f.steps = append(f.steps, step{bytes: copied(b)})
		return
	}
	f.steps[last].bytes = append(f.steps[last].bytes, b...)
}

// cut makes a unit of a cut, if there is something to be cut off.
func (f *file) cut(n int) {
	if n == f.size {
		return
	}
	f.steps = append(f.steps, step{length: n})
	f.size = n
}

// sync makes safe what is seen.
func (f *file) sync() {
	for _, s := range f.steps {
		f.carry(s)
	}
	clear(f.steps) // else their bytes, which are safe now, would be held twice
	f.steps = f.steps[:0]
}

// units tells how many changes are not safe yet.
func (f *file) units() int {
	n := 0
	for _, s := range f.steps {
		n += s.units()
	}
	return n
}

// after tells the bytes with the first n units carried out.
func (f *file) after(n int) []byte {
	r := row{copied(f.bytes)}
	for _, s := range f.steps {
		if n <= 0 {
			break
		}
		r.carry(s.first(n))
		n -= s.units()
	}
	return r.bytes
}

func copied(b []byte) []byte {
	out := make([]byte, len(b))
	copy(out, b)
	return out
}
