package entry

import (
	"slices"
	"strings"

	"satchel/api"
	"satchel/code"
	"satchel/refs"
	"satchel/vault"
)

// keyStart begins the key of each source's note.
const keyStart = "entry/"

func keyOf(from string) string { return keyStart + from }

// source is what a vault keeps of a source.
type source struct {
	rows    []row       // of the numbers of its bundles that were accepted
	stamps  []api.Stamp // sorted by name, each once
	targets []string    // names of the refs that belong to it, sorted, each once
}

func sourceOf(v *vault.Vault, from string) source {
	value, _ := v.Note(keyOf(from))
	return readSource(value)
}

// ofOthers tells whether a target belongs to another source.
func ofOthers(v *vault.Vault, from string, aims []aim) bool {
	owned := map[string]int{}
	for _, note := range v.Notes() {
		if !strings.HasPrefix(note.Key, keyStart) || note.Key == keyOf(from) {
			continue
		}
		for _, target := range readSource(note.Value).targets {
			owned[target]++
		}
	}
	return slices.ContainsFunc(aims, func(a aim) bool { return owned[a.target] > 0 })
}

// with tells what is kept once a bundle has come in.
func (s source) with(h api.Header, aims []aim) source {
	targets := slices.Clone(s.targets)
	for _, a := range aims {
		targets = append(targets, a.target)
	}
	slices.Sort(targets)
	return source{
		rows:    withNumber(s.rows, h.Seq),
		stamps:  refs.Merge(s.stamps, h.Stamps),
		targets: slices.Compact(targets),
	}
}

func (s source) has(number uint64) bool {
	return slices.ContainsFunc(s.rows, func(r row) bool { return r.first <= number && number <= r.last })
}

func (s source) isTooGreat() bool {
	return len(s.rows) > api.MaxRanges || len(s.stamps) > api.MaxStamps || len(s.targets) > api.MaxStamps
}

// written tells the note's value. All lists are in order, so that the same things stand there as the same bytes.
func (s source) written() []byte {
	w := code.New()
	w.Var(uint64(len(s.rows)))
	for _, r := range s.rows {
		w.Var(r.first)
		w.Var(r.last)
	}
	w.Var(uint64(len(s.stamps)))
	for _, stamp := range s.stamps {
		w.Bytes([]byte(stamp.Name))
		w.Raw(stamp.ID[:])
		w.Var(stamp.Seq)
	}
	w.Var(uint64(len(s.targets)))
	for _, target := range s.targets {
		w.Bytes([]byte(target))
	}
	return w.Out()
}

// readSource takes what written tells; of other bytes nothing is known.
func readSource(value []byte) source {
	r := code.Read(value)
	s := source{
		rows:    readList(r, api.MaxRanges, readRow),
		stamps:  readList(r, api.MaxStamps, readStamp),
		targets: readList(r, api.MaxStamps, readName),
	}
	if r.End() != api.OK {
		return source{}
	}
	return s
}

func readList[T any](r *code.Reader, most uint64, one func(*code.Reader) T) []T {
	var list []T
	for range r.Var(most) {
		list = append(list, one(r))
	}
	return list
}

func readRow(r *code.Reader) row { return row{first: r.Var(api.MaxSeq), last: r.Var(api.MaxSeq)} }

func readStamp(r *code.Reader) api.Stamp {
	stamp := api.Stamp{Name: readName(r)}
	copy(stamp.ID[:], r.Raw(len(stamp.ID)))
	stamp.Seq = r.Var(api.MaxSeq)
	return stamp
}

func readName(r *code.Reader) string { return string(r.Bytes(api.MaxName)) }
