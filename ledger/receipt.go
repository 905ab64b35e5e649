package ledger

import (
	"cmp"

	"satchel/api"
	"satchel/code"
	"satchel/digest"
)

const receiptMark = "RECEIPT1"

// receipt is what a destination tells that it has accepted.
type receipt struct {
	from, to string
	rows     []row
}

// row is a row of numbers without a gap.
type row struct {
	first, last uint64
}

// rows tells the longest rows of some numbers, in rising order.
func rows(numbers []uint64) []row {
	var list []row
	for _, n := range merged(cmp.Compare[uint64], numbers) {
		if k := len(list); k > 0 && n == list[k-1].last+1 {
			list[k-1].last = n
		} else {
			list = append(list, row{first: n, last: n})
		}
	}
	return list
}

// numbered tells whether the numbers may be, and the rows are the longest ones, in rising order.
func (x receipt) numbered() bool {
	without := uint64(0) // the number behind the last row: it is in none
	for _, row := range x.rows {
		if row.first <= without || row.last < row.first || row.last > api.MaxSeq {
			return false
		}
		without = row.last + 1
	}
	return true
}

// last tells the greatest number, 0 if there is none.
func (x receipt) last() uint64 {
	greatest := uint64(0)
	for _, row := range x.rows {
		greatest = max(greatest, row.last)
	}
	return greatest
}

func (x receipt) tells(number uint64) bool {
	for _, row := range x.rows {
		if row.first <= number && number <= row.last {
			return true
		}
	}
	return false
}

func sealed(x receipt, key []byte) []byte {
	w := code.New()
	w.Raw([]byte(receiptMark))
	w.Bytes([]byte(x.from))
	w.Bytes([]byte(x.to))
	w.Var(uint64(len(x.rows)))
	for _, row := range x.rows {
		w.Var(row.first)
		w.Var(row.last)
	}
	seal := digest.Keyed(key, w.Out())
	w.Raw(seal[:])
	return w.Out()
}

// unsealed takes just what sealed writes of names and numbers that may be.
func unsealed(b, key []byte) (receipt, error) {
	end := len(b) - len(api.ID{})
	if end < 0 || digest.Keyed(key, b[:end]) != api.ID(b[end:]) {
		return receipt{}, refused("seal", api.ErrLedgerReceipt)
	}
	r := code.Read(b[:end])
	mark := string(r.Raw(len(receiptMark)))
	x := receipt{from: readText(r), to: readText(r), rows: readList(r, api.MaxRanges, readRow)}
	if err := ended(r); err != nil {
		return receipt{}, err
	}
	if mark != receiptMark || !isName(x.from) || !isName(x.to) || !x.numbered() {
		return receipt{}, refused("receipt", api.ErrLedgerReceipt)
	}
	return x, nil
}

func readRow(r *code.Reader) row { return row{first: r.Var(api.MaxSeq), last: r.Var(api.MaxSeq)} }
