package ledger

import (
	"bytes"
	"cmp"
	"slices"

	"satchel/api"
)

// merged tells what stands in some lists, in order, each once: of several that are alike the first counts.
func merged[T any](compare func(a, b T) int, lists ...[]T) []T {
	all := slices.Concat(lists...)
	slices.SortStableFunc(all, compare)
	return slices.CompactFunc(all, func(a, b T) bool { return compare(a, b) == 0 })
}

// rising tells whether a list is in order, with nothing twice.
func rising[T any](compare func(a, b T) int, list []T) bool {
	for i := 1; i < len(list); i++ {
		if compare(list[i-1], list[i]) >= 0 {
			return false
		}
	}
	return true
}

func byID(a, b api.ID) int { return bytes.Compare(a[:], b[:]) }

func byName(a, b api.Stamp) int { return cmp.Compare(a.Name, b.Name) }

func byNumber(a, b api.Sent) int { return cmp.Compare(a.Seq, b.Seq) }
