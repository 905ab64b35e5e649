package volume

import (
	"cmp"
	"slices"
)

// group is the volumes of one head, the first of each index.
type group struct {
	head head
	vols []volume
}

// gathered tells the volumes among the texts by their heads, in the order in which each head comes first.
func gathered(texts [][]byte) []*group {
	var groups []*group
	places := make(map[head]int)
	last := &group{} // its head is no volume's: that has data volumes
	for _, text := range texts {
		v, ok := read(text)
		if !ok {
			continue
		}
		// A file's volumes mostly come one behind the other: then the place need not be looked up.
		if v.head != last.head {
			i, known := places[v.head]
			if !known {
				i = len(groups)
				places[v.head] = i
				groups = append(groups, &group{head: v.head})
			}
			last = groups[i]
		}
		last.add(v)
	}
	return groups
}

func (g *group) add(v volume) {
	same := func(other volume) bool { return other.index == v.index }
	if !slices.ContainsFunc(g.vols, same) {
		g.vols = append(g.vols, v)
	}
}

// joined tells the file that the volumes give, of which there are enough: the missing ones of its pieces are worked out.
func (g *group) joined() []byte {
	slices.SortFunc(g.vols, func(a, b volume) int { return cmp.Compare(a.index, b.index) })
	c := curve{field: filled()}
	for _, v := range g.vols[:g.head.data] {
		c.points = append(c.points, byte(v.index))
		c.pieces = append(c.pieces, v.piece)
	}
	pieces := make([][]byte, g.head.data)
	each(len(pieces), func(i int) { pieces[i] = c.at(i) })
	return slices.Concat(pieces...)[:g.head.size]
}
