package ledger

import (
	"satchel/api"
	"satchel/code"
)

const ledgerMark = "LEDGER01"

// written tells a ledger's bytes. The limits keep them below MaxNote.
func written(l api.Ledger) []byte {
	w := code.New()
	w.Raw([]byte(ledgerMark))
	w.Bytes([]byte(l.From))
	w.Bytes([]byte(l.To))
	w.Var(l.Next)
	w.Var(uint64(len(l.Sent)))
	for _, x := range l.Sent {
		w.Var(x.Seq)
		writeIDs(w, x.Tips)
	}
	writeIDs(w, l.Sure)
	writeIDs(w, l.Lean)
	w.Var(uint64(len(l.Refs)))
	for _, stamp := range l.Refs {
		w.Bytes([]byte(stamp.Name))
		w.Raw(stamp.ID[:])
		w.Var(stamp.Seq)
	}
	return w.Out()
}

func writeIDs(w *code.Writer, ids []api.ID) {
	w.Var(uint64(len(ids)))
	for _, id := range ids {
		w.Raw(id[:])
	}
}

// read takes the items of a ledger; whether what they tell may be is asked later, of the whole.
func read(b []byte) (api.Ledger, error) {
	r := code.Read(b)
	if string(r.Raw(len(ledgerMark))) != ledgerMark {
		return api.Ledger{}, refused("mark", api.ErrLedgerForm)
	}
	l := api.Ledger{
		From: readText(r),
		To:   readText(r),
		Next: r.Var(api.MaxSeq + 1),
		Sent: readList(r, api.MaxSent, readSent),
		Sure: readList(r, api.MaxBasis, readID),
		Lean: readList(r, api.MaxBasis, readID),
		Refs: readList(r, api.MaxStamps, readStamp),
	}
	return l, ended(r)
}

// ended tells where and why bytes could not be read up to their end.
func ended(r *code.Reader) error {
	if e := r.End(); e != api.OK {
		return unread(r.At(), e)
	}
	return nil
}

// readList reads items behind their number. Each one takes a byte at least, so no room is taken for more than can be there.
func readList[T any](r *code.Reader, most uint64, one func(*code.Reader) T) []T {
	number := r.Var(most)
	list := make([]T, 0, min(number, uint64(r.Left())))
	for range number {
		item := one(r)
		if r.Fault() != api.OK {
			return nil
		}
		list = append(list, item)
	}
	return list
}

func readSent(r *code.Reader) api.Sent {
	return api.Sent{Seq: r.Var(api.MaxSeq), Tips: readList(r, api.MaxRefs, readID)}
}

func readStamp(r *code.Reader) api.Stamp {
	return api.Stamp{Name: readText(r), ID: readID(r), Seq: r.Var(api.MaxSeq)}
}

func readText(r *code.Reader) string { return string(r.Bytes(api.MaxName)) }

func readID(r *code.Reader) api.ID {
	var id api.ID
	copy(id[:], r.Raw(len(id)))
	return id
}
