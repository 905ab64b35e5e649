package entry

import (
	"slices"
	"strings"

	"satchel/api"
	"satchel/refs"
	"satchel/vault"
	"satchel/walk"
)

// aim is a stamp whose name has a target.
type aim struct {
	stamp  api.Stamp
	target string
	forced bool // any move is let through
}

// aimsOf tells the stamps whose names have targets, sorted by these.
func aimsOf(rules []api.Rule, stamps []api.Stamp) []aim {
	var aims []aim
	for _, stamp := range stamps {
		if target, forced, ok := refs.Map(rules, stamp.Name); ok {
			aims = append(aims, aim{stamp: stamp, target: target, forced: forced})
		}
	}
	slices.SortFunc(aims, func(a, b aim) int { return strings.Compare(a.target, b.target) })
	return aims
}

// moves tells how each target's ref is moved, and which changes of refs that makes. best are the stamps that count.
func (in incoming) moves(v *vault.Vault, aims []aim, best []api.Stamp) (moved []api.Moved, changes []api.RefChange) {
	for _, a := range aims {
		old, _ := v.Ref(a.target)
		m := api.Moved{Name: a.target, Old: old, New: a.stamp.ID, How: in.how(a, old, best)}
		moved = append(moved, m)
		switch m.How {
		case api.HowGone, api.HowMade, api.HowForward, api.HowForced:
			changes = append(changes, api.RefChange{Name: m.Name, Old: m.Old, New: m.New})
		}
	}
	return moved, changes
}

func (in incoming) how(a aim, old api.ID, best []api.Stamp) int {
	none, now := api.ID{}, a.stamp.ID
	switch {
	case old == now:
		return api.HowSame
	case !slices.Contains(best, a.stamp):
		return api.HowStale
	case now == none:
		return api.HowGone
	case old == none:
		return api.HowMade
	case in.isForward(old, now):
		return api.HowForward
	case a.forced:
		return api.HowForced
	}
	return api.HowKept
}

// isForward tells whether the commit that a ref is at is the new one's, or an ancestor of it.
func (in incoming) isForward(old, now api.ID) bool {
	// Vault and bundle together may be more than a store holds, so the vault alone is asked, from where the bundle's part of the new history comes to it: the old commit is there, if nothing of its own history is left without that.
	left, e := walk.Order(in.kept, []api.ID{old}, in.edges(now))
	return e == api.OK && len(left) == 0
}

// edges tells where the history of an object comes to what the vault has. (From there on all of it is in the vault, which is closed.)
func (in incoming) edges(from api.ID) []api.ID {
	var edges []api.ID
	seen := map[api.ID]int{}
	next := []api.ID{from}
	for len(next) > 0 {
		id := next[0]
		next = next[1:]
		seen[id]++
		switch {
		case seen[id] > 1:
		case in.kept.Has(id):
			edges = append(edges, id)
		default:
			next = append(next, in.leads[id]...)
		}
	}
	return edges
}
