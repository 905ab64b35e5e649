package vault

import (
	"bytes"
	"slices"

	"satchel/api"
	"satchel/store"
)

// Get tells an object's encoding, Has whether it is there, Ids all ids, sorted.
func (v *Vault) Get(id api.ID) ([]byte, error) {
	enc, e := v.state.objects.Get(id)
	if e != api.OK {
		return nil, refused("get an object", 0, api.ErrVaultMissing, id)
	}
	return enc, nil
}

func (v *Vault) Has(id api.ID) bool { return v.state.objects.Has(id) }

func (v *Vault) Ids() []api.ID { return v.state.objects.Ids() }

// Refs tells all refs, sorted; Ref one; Log how it was moved.
func (v *Vault) Refs() []api.Ref {
	var list []api.Ref
	for _, name := range v.state.names() {
		list = append(list, api.Ref{Name: name, ID: v.state.at(name)})
	}
	return list
}

func (v *Vault) Ref(name string) (api.ID, bool) {
	_, there := v.state.logs[name]
	return v.state.at(name), there
}

func (v *Vault) Log(name string) []api.Move { return slices.Clone(v.state.logs[name]) }

// Notes tells all notes, sorted by key; Note one.
func (v *Vault) Notes() []api.Note {
	var list []api.Note
	for _, key := range v.state.keys() {
		list = append(list, api.Note{Key: key, Value: bytes.Clone(v.state.notes[key])})
	}
	return list
}

func (v *Vault) Note(key string) ([]byte, bool) {
	value, there := v.state.notes[key]
	return bytes.Clone(value), there
}

// Number tells how many transactions have changed something.
func (v *Vault) Number() uint64 { return v.state.number }

// Store tells all objects, as a store of its own.
func (v *Vault) Store() *store.Store { return v.state.objects.Copy() }
