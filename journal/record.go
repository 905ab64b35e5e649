package journal

import (
	"satchel/api"
	"satchel/code"
	"satchel/digest"
)

const (
	headMark = 0xa7
	tailMark = 0x5a

	headSize  = 1 + 4 // the mark, the body's length
	countSize = 8 + 4 // with these a body begins: the number, how many parts there are
	sumSize   = len(api.ID{})
	tailSize  = sumSize + 1
	around    = headSize + tailSize // what a record has beside its body
)

// recordSize tells how long the record of these parts is; false, if they are too many or it is too long. Nothing is laid for that: the parts may be much longer than a record.
func recordSize(parts [][]byte) (int, bool) {
	if len(parts) > api.MaxParts {
		return 0, false
	}
	size := around + countSize
	lengths := code.New()
	for _, p := range parts {
		if len(p) > api.MaxRecord-size { // ahead of the sum, which so stays small
			return 0, false
		}
		size += len(p)
		lengths.Var(uint64(len(p)))
	}
	size += lengths.Len()
	return size, size <= api.MaxRecord
}

// record tells a transaction as bytes; size is its recordSize.
func record(size int, number uint64, parts [][]byte) []byte {
	w := code.New()
	w.U8(headMark)
	w.U32(uint32(size - around))
	w.U64(number)
	w.U32(uint32(len(parts)))
	for _, p := range parts {
		w.Bytes(p)
	}
	sum := digest.Sum(w.Out())
	w.Raw(sum[:])
	w.U8(tailMark)
	return w.Out()
}

// bodyOf tells the body within a record.
func bodyOf(record []byte) []byte { return record[headSize : len(record)-tailSize] }

// firstRecord tells the whole record with which bytes begin, and its number; false, if they begin with none.
func firstRecord(b []byte) ([]byte, uint64, bool) {
	size, told := toldSize(b)
	if !told || size > len(b) || !isSealed(b[:size]) {
		return nil, 0, false
	}
	number, _, right := readBody(bodyOf(b[:size]))
	return b[:size], number, right
}

// toldSize tells how long a record is by its head. The head alone is handed to a Reader, which copies what it is given.
func toldSize(b []byte) (int, bool) {
	r := code.Read(b[:min(len(b), headSize)])
	mark, length := r.U8(), r.U32()
	if r.End() != api.OK || mark != headMark || length > uint32(api.MaxRecord-around) {
		return 0, false
	}
	return int(length) + around, true
}

// isSealed tells whether bytes, which are no fewer than around, end with the tail of what stands ahead of it.
func isSealed(b []byte) bool {
	end := len(b) - tailSize
	tail := code.Read(b[end:])
	sum, mark := tail.Raw(sumSize), tail.U8()
	return mark == tailMark && api.ID(sum) == digest.Sum(b[:end])
}

// readBody tells a transaction's number and its parts, in new memory; false, if the bytes are no body.
func readBody(b []byte) (uint64, [][]byte, bool) {
	r := code.Read(b)
	number, count := r.U64(), r.U32()
	if number < 1 || number > api.MaxSeq || count > api.MaxParts {
		return 0, nil, false
	}
	parts := make([][]byte, count)
	for i := range parts {
		parts[i] = r.Bytes(api.MaxRecord)
	}
	if r.End() != api.OK {
		return 0, nil, false
	}
	return number, parts, true
}
