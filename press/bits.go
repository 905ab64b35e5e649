package press

// noBits is what reading answers where there is nothing to be read.
const noBits = -1

// reading makes two functions over some bytes: take reads the number that the next bits make, the highest first; over tells whether all that is left is zero bits of a byte that was begun.
func reading(b []byte) (take func(width int) int, over func() bool) {
	at := 0
	left := func() int { return 8*len(b) - at }
	take = func(width int) int {
		if width > left() {
			return noBits
		}
		x := 0
		for range width {
			x = x<<1 | int(b[at/8]>>(7-at%8)&1)
			at++
		}
		return x
	}
	over = func() bool { return left() < 8 && take(left()) == 0 }
	return take, over
}

// writer gathers bits; those of the last byte that are not written yet are 0.
type writer struct {
	held []byte
	free int // bits of the last byte
}

func (w *writer) put(x, width int) {
	for i := range width {
		if w.free == 0 {
			w.held = append(w.held, 0)
			w.free = 8
		}
		w.free--
		w.held[len(w.held)-1] |= byte(x>>(width-1-i)&1) << w.free
	}
}
