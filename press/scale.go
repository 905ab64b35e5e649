package press

import "math/bits"

// scale is how values are told by few numbers: the least values have a number each, all others one for each power of two, and behind it the bits below that power.
type scale struct {
	least int // the first value
	alone int // so many values have a number each
	less  int // by so much a number is above its bits
}

func copyLengths() scale { return scale{least: 3, alone: 8, less: 5} }

func waysBack() scale { return scale{least: 1, alone: 4, less: 2} }

// part is a number of a scale, and the bits behind it.
type part struct {
	number, bits, width int
}

func (s scale) part(value int) part {
	value -= s.least
	if value < s.alone {
		return part{number: value}
	}
	width := bits.Len(uint(value)) - 1
	return part{number: width + s.less, bits: value - 1<<width, width: width}
}

// value reads the bits behind a number; noBits, if they end too early.
func (s scale) value(number int, take func(width int) int) int {
	if number < s.alone {
		return s.least + number
	}
	width := number - s.less
	x := take(width)
	if x == noBits {
		return noBits
	}
	return s.least + 1<<width + x
}
