package bundle

import (
	"math"

	"satchel/api"
	"satchel/code"
	"satchel/digest"
)

const (
	mark    = "SBDL"
	version = 1
)

// sealed writes a bundle.
func sealed(b api.Bundle, key []byte) []byte {
	w := code.New()
	w.Raw([]byte(mark))
	w.U8(version)
	write(w, b)
	seal := digest.Keyed(key, w.Out())
	w.Raw(seal[:])
	return w.Out()
}

func write(w *code.Writer, b api.Bundle) {
	w.Bytes([]byte(b.Head.From))
	w.Bytes([]byte(b.Head.To))
	w.U64(b.Head.Seq)
	w.Var(uint64(len(b.Head.Basis)))
	for _, id := range b.Head.Basis {
		w.Raw(id[:])
	}
	w.Var(uint64(len(b.Head.Stamps)))
	for _, stamp := range b.Head.Stamps {
		w.Bytes([]byte(stamp.Name))
		w.Raw(stamp.ID[:])
		w.U64(stamp.Seq)
	}
	w.Bytes(b.Pack)
}

// unsealed tells what stands ahead of a seal that fits.
func unsealed(b, key []byte) ([]byte, bool) {
	end := len(b) - len(api.ID{})
	if end < 0 || digest.Keyed(key, b[:end]) != api.ID(b[end:]) {
		return nil, false
	}
	return b[:end], true
}

// read takes the items of a bundle; whether what they tell may be is asked later, of the whole.
func read(body []byte) (api.Bundle, bool) {
	r := code.Read(body)
	if string(r.Raw(len(mark))) != mark || r.U8() != version {
		return api.Bundle{}, false
	}
	var b api.Bundle
	b.Head.From = readText(r)
	b.Head.To = readText(r)
	b.Head.Seq = r.U64()
	b.Head.Basis = readRow(r, readID)
	b.Head.Stamps = readRow(r, readStamp)
	b.Pack = r.Bytes(api.MaxBundle)
	return b, r.End() == api.OK
}

// readRow reads items behind their number, which may be any: nothing is laid out by it.
func readRow[T any](r *code.Reader, one func(*code.Reader) T) []T {
	var row []T
	for range r.Var(math.MaxUint64) {
		item := one(r)
		if r.Fault() != api.OK {
			return nil
		}
		row = append(row, item)
	}
	return row
}

func readStamp(r *code.Reader) api.Stamp {
	return api.Stamp{Name: readText(r), ID: readID(r), Seq: r.U64()}
}

func readText(r *code.Reader) string { return string(r.Bytes(api.MaxBundle)) }

func readID(r *code.Reader) api.ID {
	var id api.ID
	copy(id[:], r.Raw(len(id)))
	return id
}
