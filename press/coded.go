package press

// step is what a symbol tells: a byte, or a copy.
type step struct {
	length int  // of a byte 1
	way    int  // back; of a byte 0
	text   byte // that byte
}

// book is the codes of both rows.
type book struct {
	symbols, distances row
}

func bookOf(t *table) book {
	return book{symbols: rowOf(t[:symbols]), distances: rowOf(t[symbols:])}
}

func (k book) right() bool {
	return k.symbols.right() && (len(k.distances.line) == 0 || k.distances.right())
}

// toldByCodes gives the n bytes that code lengths, and codes behind them, tell.
func toldByCodes(body []byte, n int) ([]byte, bool) {
	if n == 0 || len(body) < tableBytes {
		return nil, false
	}
	t, ok := readTable(body)
	k := bookOf(&t)
	if !ok || !k.right() {
		return nil, false
	}
	take, over := reading(body[tableBytes:])
	told := make([]byte, 0, n)
	right := true
telling:
	for len(told) < n {
		s, ok := k.read(take)
		if !ok {
			right = false
			break
		}
		if s.way == 0 {
			told = append(told, s.text)
			continue
		}
		for range s.length {
			// Too far back, or a byte too much.
			if max(s.way-len(told), len(told)+1-n) > 0 {
				right = false
				break telling
			}
			told = append(told, told[len(told)-s.way])
		}
	}
	if !right || !over() {
		return nil, false
	}
	return told, true
}

// read reads a symbol and what belongs to it.
func (k book) read(take func(width int) int) (step, bool) {
	symbol := k.symbols.read(take)
	if symbol == noBits {
		return step{}, false
	}
	if symbol < firstCopy {
		return step{length: 1, text: byte(symbol)}, true
	}
	length := copyLengths().value(symbol-firstCopy, take)
	distance := k.distances.read(take)
	if length == noBits || distance == noBits {
		return step{}, false
	}
	way := waysBack().value(distance, take)
	return step{length: length, way: way}, way != noBits
}

// codesOf tells a text by code lengths and codes.
func codesOf(text []byte) []byte {
	steps := stepsOf(text)
	t := tableFor(steps)
	k := bookOf(&t)
	w := &writer{}
	t.write(w)
	symbolCodes, distanceCodes := k.symbols.codes(), k.distances.codes()
	for _, s := range steps {
		if s.way == 0 {
			w.put(symbolCodes[s.text], int(t[s.text]))
			continue
		}
		length, way := copyLengths().part(s.length), waysBack().part(s.way)
		w.put(symbolCodes[firstCopy+length.number], int(t[firstCopy+length.number]))
		w.put(length.bits, length.width)
		w.put(distanceCodes[way.number], int(t[symbols+way.number]))
		w.put(way.bits, way.width)
	}
	return w.held
}
