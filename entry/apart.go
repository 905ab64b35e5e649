package entry

import (
	"sync"

	"satchel/api"
	"satchel/store"
)

// part is an object that has been taken apart: its id, and what it names.
type part struct {
	id    api.ID
	links []api.Link
	fault api.Errno
}

// takeApart sends what the objects are, in order, until nobody looks at them any more.
func takeApart(objs [][]byte, found chan<- part, done <-chan struct{}) {
	defer close(found)
	s := store.New()
	for _, enc := range objs {
		var p part
		p.id, _, p.fault = s.Put(enc)
		p.links, _ = s.Children(p.id)
		select {
		case found <- p:
		case <-done:
			return
		}
	}
}

// incoming is what a bundle brings to a vault.
type incoming struct {
	objects [][]byte
	fresh   int                 // how many of the objects the vault has not
	leads   map[api.ID][]api.ID // of these: to which commits and tags they lead
	kept    *store.Store        // what the vault has
}

// lookAt looks at objects while they are taken apart; of what is wrong with them the first is told.
func lookAt(objs [][]byte, kept *store.Store) (incoming, error) {
	found, done := make(chan part), make(chan struct{})
	var taking sync.WaitGroup
	defer taking.Wait()
	defer close(done)
	taking.Add(1)
	go func() {
		defer taking.Done()
		takeApart(objs, found, done)
	}()
	in := incoming{objects: objs, leads: map[api.ID][]api.ID{}, kept: kept}
	for p := range found {
		if p.fault != api.OK {
			return incoming{}, refused("take apart", p.fault)
		}
		in.note(p)
	}
	return in, nil
}

func (in *incoming) note(p part) {
	if in.kept.Has(p.id) {
		return
	}
	in.fresh++
	for _, link := range p.links {
		if link.Kind == api.KindCommit || link.Kind == api.KindTag {
			in.leads[p.id] = append(in.leads[p.id], link.ID)
		}
	}
}
