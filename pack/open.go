package pack

import (
	"slices"
	"sync"

	"satchel/api"
	"satchel/delta"
	"satchel/object"
	"satchel/press"
)

// workers is how many open records at one time.
const workers = 4

// found tells the needed ones of the bases, the first of each id. No base is looked at once all of them are there.
func found(needs []api.ID, bases [][]byte) map[api.ID][]byte {
	given := make(map[api.ID][]byte)
	for _, enc := range bases {
		if len(given) == len(needs) {
			break
		}
		id := object.Id(enc)
		if _, needed := slices.BinarySearchFunc(needs, id, compare); !needed {
			continue
		}
		if _, twice := given[id]; !twice {
			given[id] = enc
		}
	}
	return given
}

// opener opens records. What a record gives is written by the one worker that has its number, and read by others only when all of its depth are through.
type opener struct {
	records []record
	at      map[api.ID]int
	given   map[api.ID][]byte // the bases that are no records
	out     [][]byte          // what the records give
	done    chan struct{}     // closed at the first failure
	fail    sync.Once
}

// opened tells what the records give, one depth behind the other, so that each finds its base opened; false, if one does not give what it says. Which one is met first makes no difference: the answer is the same for all of them.
func opened(records []record, rows [api.MaxChain + 1][]int, given map[api.ID][]byte) ([][]byte, bool) {
	o := &opener{
		records: records,
		at:      places(records),
		given:   given,
		out:     make([][]byte, len(records)),
		done:    make(chan struct{}),
	}
	for _, row := range rows {
		o.openAll(row)
		if o.failed() {
			return nil, false
		}
	}
	return o.out, true
}

// openAll shares the numbers of records out among workers, and waits for them.
func (o *opener) openAll(row []int) {
	numbers := make(chan int, len(row))
	for _, i := range row {
		numbers <- i
	}
	close(numbers)
	var group sync.WaitGroup
	for range min(workers, len(row)) {
		group.Add(1)
		go func() {
			defer group.Done()
			o.work(numbers)
		}()
	}
	group.Wait()
}

func (o *opener) work(numbers <-chan int) {
	for {
		select {
		case <-o.done:
			return
		case i, more := <-numbers:
			if !more {
				return
			}
			if !o.open(i) {
				o.fail.Do(func() { close(o.done) })
				return
			}
		}
	}
}

func (o *opener) failed() bool {
	select {
	case <-o.done:
		return true
	default:
		return false
	}
}

func (o *opener) open(i int) bool {
	r := o.records[i]
	enc, ok := o.told(r)
	if !ok || len(enc) != r.size || object.Id(enc) != r.id {
		return false
	}
	o.out[i] = enc
	return true
}

// told opens the data to no more than the record's size.
func (o *opener) told(r record) ([]byte, bool) {
	if r.form == formWhole {
		enc, e := press.Unpress(r.data, r.size)
		return enc, e == api.OK
	}
	d, e := press.Unpress(r.data, api.MaxObject)
	if e != api.OK {
		return nil, false
	}
	// Asked ahead: Apply gives as many bytes as the delta says.
	if _, size, e := delta.Size(d); e != api.OK || size != r.size {
		return nil, false
	}
	enc, e := delta.Apply(o.base(r), d)
	return enc, e == api.OK
}

func (o *opener) base(r record) []byte {
	if i, inside := o.at[r.base]; inside {
		return o.out[i]
	}
	return o.given[r.base]
}
