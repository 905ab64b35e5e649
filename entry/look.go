package entry

import (
	"errors"

	"satchel/api"
	"satchel/bundle"
	"satchel/refs"
	"satchel/vault"
)

// coming is a bundle that may come in: what is told of it, and what it does to the vault.
type coming struct {
	result api.Result
	txn    api.Txn
}

// look takes the steps ahead of the transaction.
func look(v *vault.Vault, me string, key []byte, rules []api.Rule, data []byte) (coming, error) {
	b, err := bundle.Parse(data, key)
	if err != nil {
		return coming{}, handed("parse", err)
	}
	if b.Head.To != me {
		return coming{}, refused("to", api.ErrEntryFor)
	}
	kept := v.Store()
	objs, err := bundle.Verify(kept, b)
	if err != nil {
		return coming{}, unverified(err)
	}
	in, err := lookAt(objs, kept)
	if err != nil {
		return coming{}, err
	}
	return join(v, rules, b.Head, in)
}

// unverified tells why a bundle cannot be opened. Prerequisites that are not there are a matter of this layer.
func unverified(err error) error {
	var f *api.Fault
	if errors.Is(err, api.ErrBundleBasis) && errors.As(err, &f) {
		return refused("prerequisites", api.ErrEntryMissing, f.IDs...)
	}
	return handed("verify", err)
}

// join brings what a bundle says together with what is known of its source.
func join(v *vault.Vault, rules []api.Rule, h api.Header, in incoming) (coming, error) {
	known := sourceOf(v, h.From)
	aims := aimsOf(rules, h.Stamps)
	behind := known.with(h, aims)
	switch {
	case clash(rules, behind.stamps):
		return coming{}, refused("targets", api.ErrEntryClash)
	case ofOthers(v, h.From, aims):
		return coming{}, refused("targets", api.ErrEntryFrom)
	case behind.isTooGreat():
		return coming{}, refused("source", api.ErrEntryMany)
	}
	moved, changes := in.moves(v, aims, behind.stamps)
	return coming{
		result: api.Result{From: h.From, Seq: h.Seq, Objects: in.fresh, Refs: moved, Again: known.has(h.Seq)},
		txn: api.Txn{
			Objects: in.objects,
			Refs:    changes,
			Notes:   []api.Note{{Key: keyOf(h.From), Value: behind.written()}},
		},
	}, nil
}

// clash tells whether two of the stamps' names have one target.
func clash(rules []api.Rule, stamps []api.Stamp) bool {
	var names []string
	for _, stamp := range stamps {
		names = append(names, stamp.Name)
	}
	_, found := refs.Clash(rules, names)
	return found
}
