package ledger

import (
	"slices"

	"satchel/api"
)

// copied lets an answer share no memory with the ledger that was handed in.
func copied(l api.Ledger) api.Ledger {
	l.Sent = slices.Clone(l.Sent)
	for i, x := range l.Sent {
		l.Sent[i].Tips = slices.Clone(x.Tips)
	}
	l.Sure = slices.Clone(l.Sure)
	l.Lean = slices.Clone(l.Lean)
	l.Refs = slices.Clone(l.Refs)
	return l
}

// parted tells the bundles of some numbers, and all others.
func parted(sent []api.Sent, is func(number uint64) bool) (these, others []api.Sent) {
	for _, x := range sent {
		if is(x.Seq) {
			these = append(these, x)
		} else {
			others = append(others, x)
		}
	}
	return these, others
}

// tips tells each bundle's tips.
func tips(sent []api.Sent) [][]api.ID {
	lists := make([][]api.ID, 0, len(sent)+1)
	for _, x := range sent {
		lists = append(lists, x.Tips)
	}
	return lists
}
