// Package code: bytes written and read: see ../shared/doc/01-code.md.
package code

import (
	"math/bits"

	"satchel/api"
)

const (
	groupBits = 7    // bits of a number in one byte of its Var
	moreBit   = 0x80 // set in every byte of a Var but the last
	mostGroup = 10   // bytes of the longest Var
	mostTenth = 1    // 64 bits are nine groups of seven, and one bit
)

// Writer gathers bytes.
type Writer struct {
	held []byte
}

// New makes an empty writer.
func New() *Writer { return &Writer{} }

// U8, U32 and U64 write a number in one, four, eight bytes.
func (w *Writer) U8(n uint8) { w.fixed(uint64(n), 1) }

func (w *Writer) U32(n uint32) { w.fixed(uint64(n), 4) }

func (w *Writer) U64(n uint64) { w.fixed(n, 8) }

func (w *Writer) fixed(n uint64, size int) {
	for i := range size {
		w.held = append(w.held, byte(n>>(8*(size-1-i))))
	}
}

// Var writes a number in its shortest form.
func (w *Writer) Var(n uint64) {
	// 0 takes a byte, too: it is counted like 1.
	last := (bits.Len64(n|1) - 1) / groupBits
	for range last {
		w.held = append(w.held, byte(n)|moreBit)
		n >>= groupBits
	}
	w.held = append(w.held, byte(n))
}

// Bytes writes the length and the bytes, Raw the bytes alone.
func (w *Writer) Bytes(b []byte) {
	w.Var(uint64(len(b)))
	w.Raw(b)
}

func (w *Writer) Raw(b []byte) { w.held = append(w.held, b...) }

// Len tells how many bytes there are, Out the bytes.
func (w *Writer) Len() int { return len(w.held) }

func (w *Writer) Out() []byte { return copied(w.held) }

// copied lets what is answered and what is kept share no memory.
func copied(b []byte) []byte {
	out := make([]byte, len(b))
	copy(out, b)
	return out
}

// fault is why an item could not be read.
type fault int

const (
	faultNone fault = iota
	faultShort
	faultForm
	faultMax
	faultArg
)

func (f fault) errno() api.Errno {
	switch f {
	case faultShort:
		return api.ErrCodeShort
	case faultForm:
		return api.ErrCodeForm
	case faultMax:
		return api.ErrCodeMax
	case faultArg:
		return api.ErrCodeArg
	}
	return api.OK
}

// kind is of what kind the item is that a Reader is about to read.
type kind int

const (
	kindFixed kind = iota // a number in size bytes
	kindVar               // a number of at most most
	kindBytes             // a length of at most most, and the bytes
	kindRaw               // size bytes
)

// asked is the item that a Reader is about to read.
type asked struct {
	kind kind
	size int
	most uint64
}

// found is an item that stands at the front of some bytes: its number, and where its text begins and the item ends.
type found struct {
	number   uint64
	from, to int
}

// Reader takes bytes apart, up to the first fault.
type Reader struct {
	held  []byte
	place int
	fault fault
}

// Read begins at the first of the bytes.
func Read(b []byte) *Reader { return &Reader{held: copied(b)} }

func (r *Reader) U8() uint8 {
	n, _ := r.take(asked{kind: kindFixed, size: 1})
	return uint8(n)
}

func (r *Reader) U32() uint32 {
	n, _ := r.take(asked{kind: kindFixed, size: 4})
	return uint32(n)
}

func (r *Reader) U64() uint64 {
	n, _ := r.take(asked{kind: kindFixed, size: 8})
	return n
}

// Var reads a number of at most so much.
func (r *Reader) Var(most uint64) uint64 {
	n, _ := r.take(asked{kind: kindVar, most: most})
	return n
}

// Bytes reads a length of at most so much and the bytes, Raw just n bytes.
func (r *Reader) Bytes(most int) []byte {
	_, text := r.take(asked{kind: kindBytes, most: uint64(max(most, 0))})
	return copied(text)
}

func (r *Reader) Raw(n int) []byte {
	_, text := r.take(asked{kind: kindRaw, size: n})
	return copied(text)
}

// take is the only way on: the place moves behind an item that is there, and a fault is for good. The text that it answers is the Reader's own memory.
func (r *Reader) take(a asked) (uint64, []byte) {
	if r.fault != faultNone {
		return 0, nil
	}
	rest := r.held[r.place:]
	item, f := look(rest, a)
	if f != faultNone {
		r.fault = f
		return 0, nil
	}
	r.place += item.to
	return item.number, rest[item.from:item.to]
}

// look tells the item at the front of the bytes, or the first fault that applies.
func look(b []byte, a asked) (found, fault) {
	switch a.kind {
	case kindFixed:
		return lookFixed(b, a.size)
	case kindVar:
		return lookVar(b, a.most)
	case kindBytes:
		return lookBytes(b, a.most)
	}
	return lookRaw(b, a.size)
}

func lookFixed(b []byte, size int) (found, fault) {
	if len(b) < size {
		return found{}, faultShort
	}
	var n uint64
	for i := range size {
		n = n<<8 | uint64(b[i])
	}
	return found{number: n, from: size, to: size}, faultNone
}

func lookVar(b []byte, most uint64) (found, fault) {
	var n uint64
	for i := range mostGroup {
		if i >= len(b) {
			return found{}, faultShort
		}
		if i == mostGroup-1 && b[i] > mostTenth {
			return found{}, faultForm
		}
		n |= uint64(b[i]&^moreBit) << (groupBits * i)
		if b[i]&moreBit != 0 {
			continue
		}
		if b[i] == 0 && i > 0 {
			return found{}, faultForm
		}
		if n > most {
			return found{}, faultMax
		}
		return found{number: n, from: i + 1, to: i + 1}, faultNone
	}
	// Not reached: a tenth byte that has moreBit is above mostTenth.
	return found{}, faultForm
}

func lookBytes(b []byte, most uint64) (found, fault) {
	item, f := lookVar(b, most)
	if f != faultNone {
		return found{}, f
	}
	// Held against what is left ahead of any sum: a length may be as great as an int goes.
	if item.number > uint64(len(b)-item.to) {
		return found{}, faultShort
	}
	item.to += int(item.number)
	return item, faultNone
}

func lookRaw(b []byte, size int) (found, fault) {
	if size < 0 {
		return found{}, faultArg
	}
	if len(b) < size {
		return found{}, faultShort
	}
	return found{to: size}, faultNone
}

// Left tells how many bytes are left, At where the next item begins.
func (r *Reader) Left() int { return len(r.held) - r.place }

func (r *Reader) At() int { return r.place }

// Fault tells the first fault, End too whether bytes are left.
func (r *Reader) Fault() api.Errno { return r.fault.errno() }

func (r *Reader) End() api.Errno {
	if r.fault != faultNone {
		return r.fault.errno()
	}
	if r.Left() > 0 {
		return api.ErrCodeLeft
	}
	return api.OK
}
