package press

const (
	symbols     = 277 // 256 bytes, and the numbers of a copy's length
	firstCopy   = 256
	distances   = 18
	longestCode = 15
	tableBytes  = (symbols + distances + 1) / 2
)

// table is the code lengths: how many bits each code has, those of the symbols ahead of those of the distances; 0: it is not used.
type table [symbols + distances]byte

// readTable wants tableBytes bytes or more.
func readTable(b []byte) (table, bool) {
	var t table
	for place := range t {
		t[place] = half(b, place)
	}
	return t, half(b, len(t)) == 0
}

// half tells the number at a place of a row that stands two in a byte.
func half(b []byte, place int) byte {
	return b[place/2] >> (4 - 4*(place%2)) & 15
}

func (t *table) write(w *writer) {
	for _, length := range t {
		w.put(int(length), 4)
	}
	w.put(0, 8*tableBytes-4*len(t))
}

// row is the codes of the symbols, or of the distances.
type row struct {
	counts [longestCode + 1]int // how many codes there are of each length
	line   []int                // the used ones, as their codes stand
}

func rowOf(lengths []byte) row {
	var r row
	var next [longestCode + 1]int // where in the line the next one of a length stands
	for _, length := range lengths {
		r.counts[length]++
	}
	r.counts[0] = 0
	for length := 1; length < longestCode; length++ {
		next[length+1] = next[length] + r.counts[length]
	}
	r.line = make([]int, next[longestCode]+r.counts[longestCode])
	for number, length := range lengths {
		if length > 0 {
			r.line[next[length]] = number
			next[length]++
		}
	}
	return r
}

// right tells whether a row may be: it is whole, or has one code, of one bit.
func (r row) right() bool {
	sum := 0
	for length, count := range r.counts {
		sum += count << (longestCode - length)
	}
	return sum == 1<<longestCode || len(r.line) == 1 && r.counts[1] == 1
}

// read reads bit for bit till there is a code: of each length the codes are numbers that follow one another, so that it is enough to know the first and how many there are.
func (r row) read(take func(width int) int) int {
	code, first, place := 0, 0, 0
	for _, count := range r.counts[1:] {
		bit := take(1)
		if bit == noBits {
			break
		}
		code = code<<1 | bit
		first <<= 1
		if code < first+count {
			return r.line[place+code-first]
		}
		first += count
		place += count
	}
	return noBits
}

// codes tells the code of each number that is used.
func (r row) codes() [symbols]int {
	var codes [symbols]int
	code, place := 0, 0
	for _, count := range r.counts {
		code <<= 1
		for range count {
			codes[r.line[place]] = code
			code++
			place++
		}
	}
	return codes
}
