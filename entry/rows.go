package entry

import (
	"cmp"
	"slices"
)

// row is a row of numbers without a gap.
type row struct {
	first, last uint64
}

// withNumber tells the longest rows of some numbers and one more, rising.
func withNumber(rows []row, number uint64) []row {
	all := append(slices.Clone(rows), row{first: number, last: number})
	slices.SortFunc(all, func(a, b row) int { return cmp.Compare(a.first, b.first) })
	var joined []row
	for _, r := range all {
		if k := len(joined) - 1; k >= 0 && r.first <= joined[k].last+1 {
			joined[k].last = max(joined[k].last, r.last)
			continue
		}
		joined = append(joined, r)
	}
	return joined
}

// numbers tells all that stand in some rows.
func numbers(rows []row) []uint64 {
	var list []uint64
	for _, r := range rows {
		for n := r.first; n <= r.last; n++ {
			list = append(list, n)
		}
	}
	return list
}
