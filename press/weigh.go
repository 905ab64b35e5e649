package press

import (
	"cmp"
	"slices"
)

// tableFor tells the code lengths by which these steps take the fewest bits.
func tableFor(steps []step) table {
	var weights [symbols + distances]int // how often each is told
	for _, s := range steps {
		if s.way == 0 {
			weights[s.text]++
			continue
		}
		weights[firstCopy+copyLengths().part(s.length).number]++
		weights[symbols+waysBack().part(s.way).number]++
	}
	var t table
	share(weights[:symbols], t[:symbols])
	share(weights[symbols:], t[symbols:])
	return t
}

// parcel is a number with its weight, or two parcels that go together.
type parcel struct {
	weight int
	number int
	pair   []parcel // two that stand side by side in the line below; a number has none
}

// share sets the lengths that cost the fewest bits of all rows that are whole and have no code above longestCode. It is the way of parcels: from the longest length up, the parcels of each length are paired, the lightest first, and laid among the numbers for the length above; of the last line just so many are taken that the row is whole, and a number's code has as many bits as it is in parcels that are taken.
func share(weights []int, lengths []byte) {
	numbers := used(weights)
	if len(numbers) == 1 {
		lengths[numbers[0].number] = 1
		return
	}
	line := numbers
	for range longestCode - 1 {
		line = merged(numbers, paired(line))
	}
	for _, p := range line[:max(2*len(numbers)-2, 0)] {
		p.lengthen(lengths)
	}
}

// used tells the numbers that have a weight, the lightest first.
func used(weights []int) []parcel {
	var numbers []parcel
	for number, weight := range weights {
		if weight > 0 {
			numbers = append(numbers, parcel{weight: weight, number: number})
		}
	}
	slices.SortStableFunc(numbers, func(a, b parcel) int { return cmp.Compare(a.weight, b.weight) })
	return numbers
}

func paired(line []parcel) []parcel {
	var pairs []parcel
	for at := 0; at+1 < len(line); at += 2 {
		pairs = append(pairs, parcel{weight: line[at].weight + line[at+1].weight, pair: line[at : at+2]})
	}
	return pairs
}

func merged(a, b []parcel) []parcel {
	line := make([]parcel, 0, len(a)+len(b))
	for len(a) > 0 && len(b) > 0 {
		if a[0].weight <= b[0].weight {
			line, a = append(line, a[0]), a[1:]
		} else {
			line, b = append(line, b[0]), b[1:]
		}
	}
	return slices.Concat(line, a, b)
}

func (p parcel) lengthen(lengths []byte) {
	if p.pair == nil {
		lengths[p.number]++
	}
	for _, q := range p.pair {
		q.lengthen(lengths)
	}
}
