package pack

import (
	"math"
	"slices"

	"satchel/api"
	"satchel/code"
	"satchel/digest"
)

const (
	mark    = "SPAK"
	version = 1
)

// The forms of a record.
const (
	formWhole = 1 + iota
	formDelta
)

// record is an object as it stands in a pack.
type record struct {
	id   api.ID
	form uint8
	base api.ID // a delta's
	size int
	data []byte
}

// sealed writes records, which are sorted, under their digest.
func sealed(records []record) []byte {
	w := code.New()
	w.Raw([]byte(mark))
	w.U8(version)
	w.Var(uint64(len(records)))
	for _, r := range records {
		r.write(w)
	}
	sum := digest.Sum(w.Out())
	w.Raw(sum[:])
	return w.Out()
}

func (r record) write(w *code.Writer) {
	w.Raw(r.id[:])
	w.U8(r.form)
	if r.form == formDelta {
		w.Raw(r.base[:])
	}
	w.Var(uint64(r.size))
	w.Bytes(r.data)
}

// cost is by how much a record of an object is longer than another one's, or shorter.
func (r record) cost() int {
	n := len(r.data)
	if r.form == formDelta {
		n += len(r.base)
	}
	return n
}

// unsealed reads the records of a pack; none of them is opened.
func unsealed(b []byte) ([]record, api.Errno) {
	if len(b) > api.MaxPack {
		return nil, api.ErrPackLong
	}
	end := len(b) - len(api.ID{})
	if end < 0 || digest.Sum(b[:end]) != api.ID(b[end:]) {
		return nil, api.ErrPackSum
	}
	records, ok := read(b[:end])
	if !ok {
		return nil, api.ErrPackForm
	}
	if len(records) > api.MaxObjects || sizes(records) > api.MaxUnpacked {
		return nil, api.ErrPackMany
	}
	return records, api.OK
}

// read takes just what sealed would write. Nothing is laid out by the number of records that is told: it may be any.
func read(body []byte) ([]record, bool) {
	r := code.Read(body)
	if string(r.Raw(len(mark))) != mark || r.U8() != version {
		return nil, false
	}
	var records []record
	for range r.Var(math.MaxUint64) {
		next, ok := readOne(r)
		if !ok {
			return nil, false
		}
		if n := len(records); n > 0 && compare(records[n-1].id, next.id) >= 0 {
			return nil, false
		}
		records = append(records, next)
	}
	return records, r.End() == api.OK
}

func readOne(r *code.Reader) (record, bool) {
	x := record{id: readID(r), form: r.U8()}
	if x.form != formWhole && x.form != formDelta {
		return record{}, false
	}
	if x.form == formDelta {
		x.base = readID(r)
	}
	x.size = int(r.Var(api.MaxObject))
	x.data = r.Bytes(api.MaxPack)
	return x, r.Fault() == api.OK
}

func readID(r *code.Reader) api.ID {
	var id api.ID
	copy(id[:], r.Raw(len(id)))
	return id
}

func sizes(records []record) int {
	n := 0
	for _, r := range records {
		n += r.size
	}
	return n
}

// places tells where in the list the record of an id stands.
func places(records []record) map[api.ID]int {
	at := make(map[api.ID]int)
	for i, r := range records {
		at[r.id] = i
	}
	return at
}

// needsOf tells the bases that are no records, sorted, each once.
func needsOf(records []record) []api.ID {
	at := places(records)
	var needs []api.ID
	for _, r := range records {
		if r.form != formDelta {
			continue
		}
		if _, inside := at[r.base]; !inside {
			needs = append(needs, r.base)
		}
	}
	slices.SortFunc(needs, compare)
	return slices.Compact(needs)
}

// byDepth tells for each depth which records have it; false, if one is deeper than may be.
func byDepth(records []record) ([api.MaxChain + 1][]int, bool) {
	at := places(records)
	var rows [api.MaxChain + 1][]int
	for i := range records {
		d := depth(records, at, i)
		if d > api.MaxChain {
			return rows, false
		}
		rows[d] = append(rows[d], i)
	}
	return rows, true
}

// depth counts no further than to one more than may be: so it comes to an end in a ring, too.
func depth(records []record, at map[api.ID]int, i int) int {
	d := 0
	for d <= api.MaxChain && records[i].form == formDelta {
		d++
		base, inside := at[records[i].base]
		if !inside {
			break
		}
		i = base
	}
	return d
}
