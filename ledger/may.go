package ledger

import (
	"satchel/api"
)

func isName(name string) bool { return name != "" && len(name) <= api.MaxName }

// mayBe tells whether a ledger may be.
func mayBe(l api.Ledger) bool {
	return isName(l.From) && isName(l.To) &&
		l.Next >= 1 && l.Next <= api.MaxSeq+1 &&
		areSent(l.Sent, l.Next) &&
		areIDs(l.Sure, api.MaxBasis) && areIDs(l.Lean, api.MaxBasis) &&
		areRefs(l.Refs, l.Next)
}

func areSent(sent []api.Sent, next uint64) bool {
	if len(sent) > api.MaxSent || !rising(byNumber, sent) {
		return false
	}
	for _, x := range sent {
		if x.Seq < 1 || x.Seq >= next || !areIDs(x.Tips, api.MaxRefs) {
			return false
		}
	}
	return true
}

func areIDs(ids []api.ID, most int) bool {
	// The zero id could only be the first one, if they rise.
	return len(ids) <= most && rising(byID, ids) && (len(ids) == 0 || ids[0] != api.ID{})
}

func areRefs(stamps []api.Stamp, next uint64) bool {
	if len(stamps) > api.MaxStamps || !rising(byName, stamps) {
		return false
	}
	there := 0
	for _, stamp := range stamps {
		if !isName(stamp.Name) || stamp.Seq < 1 || stamp.Seq >= next {
			return false
		}
		if stamp.ID != (api.ID{}) {
			there++
		}
	}
	return there <= api.MaxRefs
}
