package bundle

import (
	"satchel/api"
	"satchel/store"
)

// holding is what there is once a bundle has come in.
type holding struct {
	kept, brought *store.Store
	kinds         map[api.ID]int // of what was asked for so far: a great object may be named very often
}

// together tells what a store and a pack's objects hold. They stay apart, since the store may have no room left.
func together(s *store.Store, objs [][]byte) holding {
	h := holding{kept: s, brought: store.New(), kinds: map[api.ID]int{}}
	for _, enc := range objs {
		h.brought.Put(enc)
	}
	return h
}

func (h holding) has(id api.ID) bool { return h.brought.Has(id) || h.kept.Has(id) }

// kind tells KindNone of what isn't there.
func (h holding) kind(id api.ID) int {
	if kind, asked := h.kinds[id]; asked {
		return kind
	}
	kind, e := h.brought.Kind(id)
	if e != api.OK {
		kind, _ = h.kept.Kind(id)
	}
	h.kinds[id] = kind
	return kind
}

// open tells the children of the pack's objects that are not there, or are of another kind than their place wants.
func (h holding) open() []api.ID {
	var ids []api.ID
	for _, id := range h.brought.Ids() {
		links, _ := h.brought.Children(id)
		for _, link := range links {
			if h.kind(link.ID) != link.Kind {
				ids = append(ids, link.ID)
			}
		}
	}
	return ids
}
