package bundle

import (
	"slices"

	"satchel/api"
	"satchel/pack"
	"satchel/store"
	"satchel/walk"
)

// mostLean is how many bytes of objects are gathered at most to tell others by: all that a destination has may be far more than a pack can hold.
const mostLean = api.MaxUnpacked

// packed tells a pack of what is behind want and not behind have; all of both has been reached before.
func packed(s *store.Store, want, have []api.ID) ([]byte, error) {
	need, _ := walk.Need(s, want, have)
	p, e := pack.Encode(encodings(s, need), nearest(s, have))
	if e != api.OK {
		return nil, refused("pack", e)
	}
	return p, nil
}

// nearest tells encodings of what can be reached from have, that of the fewest steps first, until there is enough: what is changed most likely stands there.
func nearest(s *store.Store, have []api.ID) [][]byte {
	order := slices.Clone(have)
	seen := map[api.ID]int{}
	for i, id := range order {
		seen[id] = i
	}
	var bases [][]byte
	size := 0
	for i := 0; i < len(order); i++ {
		enc, _ := s.Get(order[i])
		size += len(enc)
		if size > mostLean {
			break
		}
		bases = append(bases, enc)
		links, _ := s.Children(order[i])
		for _, link := range links {
			if _, twice := seen[link.ID]; !twice {
				seen[link.ID] = len(order)
				order = append(order, link.ID)
			}
		}
	}
	return bases
}

// unpacked opens a pack whose bases stand in a store.
func unpacked(s *store.Store, p []byte) ([][]byte, error) {
	needs, e := pack.Needs(p)
	if e != api.OK {
		return nil, refused("pack", e)
	}
	objs, e := pack.Decode(p, encodings(s, needs))
	if e != api.OK {
		return nil, naming(refused("pack", e), without(needs, s.Has))
	}
	return objs, nil
}

// encodings tells those that are there.
func encodings(s *store.Store, ids []api.ID) [][]byte {
	var list [][]byte
	for _, id := range ids {
		if enc, e := s.Get(id); e == api.OK {
			list = append(list, enc)
		}
	}
	return list
}
