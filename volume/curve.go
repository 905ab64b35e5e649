package volume

import (
	"slices"
	"sync"
)

// curve is the polynomials of all places of a file, told by as many points as it has data volumes: byte j of a point's piece is the value of the polynomial of place j there.
type curve struct {
	field  *field
	points []byte
	pieces [][]byte
}

// cut tells the curve of a file: its pieces stand at the points from 0 on.
func cut(b []byte, h head) curve {
	k := h.piece()
	padded := make([]byte, h.data*k)
	copy(padded, b)
	c := curve{field: filled()}
	for i := range h.data {
		c.points = append(c.points, byte(i))
		c.pieces = append(c.pieces, padded[i*k:(i+1)*k])
	}
	return c
}

// at tells the piece of a point: one that is there, or the one that is worked out from them.
func (c curve) at(point int) []byte {
	x := byte(point)
	if i := slices.Index(c.points, x); i >= 0 {
		return c.pieces[i]
	}
	sum := make([]byte, len(c.pieces[0]))
	for i, piece := range c.pieces {
		w := c.field.weight(c.points, i, x)
		for j, value := range piece {
			sum[j] ^= c.field.times(w, value)
		}
	}
	return sum
}

// each does the work of every number below n in a goroutine of its own, and waits for all of them.
func each(n int, work func(i int)) {
	var group sync.WaitGroup
	for i := range n {
		group.Add(1)
		go func() {
			defer group.Done()
			work(i)
		}()
	}
	group.Wait()
}
