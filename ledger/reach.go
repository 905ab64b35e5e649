package ledger

import (
	"satchel/api"
	"satchel/store"
)

// reached is all that can be reached from some ids, by numbers: those ids themselves have the first ones.
type reached struct {
	ids    []api.ID
	namers [][]int // of each one those that name it
}

// reach begins with ids of which none comes twice. What is not in the store is come to, but not gone on from.
func reach(s *store.Store, from []api.ID) reached {
	var r reached
	numbers := map[api.ID]int{}
	see := func(id api.ID) int {
		number, seen := numbers[id]
		if !seen {
			number = len(r.ids)
			numbers[id] = number
			r.ids = append(r.ids, id)
			r.namers = append(r.namers, nil)
		}
		return number
	}
	for _, id := range from {
		see(id)
	}
	for at := 0; at < len(r.ids); at++ {
		links, _ := s.Children(r.ids[at])
		for _, link := range links {
			child := see(link.ID)
			r.namers[child] = append(r.namers[child], at)
		}
	}
	return r
}

// greatest tells those of all ids of some lists that are behind no other one, and of these the last ones, if they are too many.
func greatest(s *store.Store, lists ...[]api.ID) []api.ID {
	all := merged(byID, lists...)
	// What is named by anything that was come to is behind another one of them: nothing can be reached from itself, since an id is a digest.
	namers := reach(s, all).namers
	var ids []api.ID
	for i, id := range all {
		if len(namers[i]) == 0 {
			ids = append(ids, id)
		}
	}
	return ids[max(0, len(ids)-api.MaxBasis):]
}

// whole tells the ids from which everything that can be reached is there.
func whole(s *store.Store, ids []api.ID) []api.ID {
	r := reach(s, ids)
	open := make([]bool, len(r.ids))
	var next []int
	note := func(at int) {
		if !open[at] {
			open[at] = true
			next = append(next, at)
		}
	}
	for at, id := range r.ids {
		if !s.Has(id) {
			note(at)
		}
	}
	for i := 0; i < len(next); i++ {
		for _, namer := range r.namers[next[i]] {
			note(namer)
		}
	}
	var list []api.ID
	for at, id := range ids {
		if !open[at] {
			list = append(list, id)
		}
	}
	return list
}
