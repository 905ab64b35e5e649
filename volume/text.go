package volume

import (
	"satchel/api"
	"satchel/code"
	"satchel/digest"
)

const (
	mark = "VOLUME01"

	// The longest text around a piece: the mark, three numbers of a byte, the file's length and digest, the piece's length, the volume's digest. A longer text than this and a file is no volume.
	mostAround = len(mark) + 3 + 8 + idSize + 10 + idSize
	idSize     = len(api.ID{})
)

// head is what the volumes of one file have in common.
type head struct {
	data, parity int
	size         int
	file         api.ID
}

// piece tells how many bytes a piece has.
func (h head) piece() int { return (h.size + h.data - 1) / h.data }

// volume is what a volume's text says.
type volume struct {
	head  head
	index int
	piece []byte
}

// sealed writes a volume under its digest. The piece may be long: it is copied once, into memory that has room for the whole.
func (v volume) sealed() []byte {
	w := code.New()
	w.Raw([]byte(mark))
	w.U8(uint8(v.head.data))
	w.U8(uint8(v.head.parity))
	w.U8(uint8(v.index))
	w.U64(uint64(v.head.size))
	w.Raw(v.head.file[:])
	w.Var(uint64(len(v.piece)))
	text := make([]byte, 0, w.Len()+len(v.piece)+idSize)
	text = append(text, w.Out()...)
	text = append(text, v.piece...)
	seal := digest.Sum(text)
	return append(text, seal[:]...)
}

// read tells what a text says; false, if it is no volume.
func read(text []byte) (volume, bool) {
	if len(text) > mostAround+api.MaxFile {
		return volume{}, false
	}
	r := code.Read(text)
	begin := r.Raw(len(mark))
	data, parity, index := int(r.U8()), int(r.U8()), int(r.U8())
	size := r.U64()
	file := r.Raw(idSize)
	piece := r.Bytes(api.MaxFile)
	end := r.At()
	seal := r.Raw(idSize)
	if r.End() != api.OK || string(begin) != mark {
		return volume{}, false
	}
	if !shape(data, parity) || index >= data+parity || size > api.MaxFile {
		return volume{}, false
	}
	h := head{data: data, parity: parity, size: int(size), file: api.ID(file)}
	if len(piece) != h.piece() || digest.Sum(text[:end]) != api.ID(seal) {
		return volume{}, false
	}
	return volume{head: h, index: index, piece: piece}, true
}
