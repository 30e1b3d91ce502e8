package replica

import (
	"errors"

	"blazon/api"
	"blazon/clients"
	"blazon/log"
	"blazon/snap"
	"blazon/store"
)

// doUpTo does place by place, up to one, or the log's end.
func (n *Node) doUpTo(place uint64) {
	for n.commit < min(place, n.log.End()) {
		at := n.commit + 1
		r, e := n.log.At(at)
		if e != api.OK {
			return
		}
		result := n.perform(r)
		n.commit = at
		n.did = append(n.did, api.Did{At: at, Request: r, Result: result})
		if n.Primary() {
			n.reply(r, result)
		}
		if n.commit-n.log.Base() >= uint64(n.config.Every) || n.log.Size() > fullLog {
			n.drop()
		}
	}
}

// perform does a request's operation, if it is new: its result.
func (n *Node) perform(r api.Request) api.Result {
	age, result := n.clients.Ask(r.Client, r.Num)
	if age != api.AgeNew {
		return result
	}
	if _, known := n.clients.Latest(r.Client); !known && n.clients.Len() == api.MaxClients {
		return api.Result{Code: api.ErrFull}
	}
	result = n.store.Do(r.Op)
	n.clients.Put(r.Client, r.Num, result)
	return result
}

// drop drops what stands up to the commit; the snapshot is what came of it.
func (n *Node) drop() {
	if n.log.Drop(n.commit) == api.OK {
		n.snapshot, _ = snap.Bytes(n.store, n.clients.Bytes())
	}
}

// layer is what is to be laid: a log, and what stands up to its base.
type layer struct {
	log      *log.Log
	store    *store.Store
	clients  *clients.Table
	snapshot []byte
}

// layerOf is what a message has to be laid, if that can be.
func (n *Node) layerOf(m api.Message) (layer, bool) {
	s, extra, e := snap.Of(n.names, n.col, m.Snap)
	if errors.Is(e, api.ErrBytes) || s.Quota() != n.config.Quota {
		return layer{}, false
	}
	t, e := clients.Of(extra)
	if errors.Is(e, api.ErrBytes) {
		return layer{}, false
	}
	l, e := log.Of(m.Base, m.Log...)
	if errors.Is(e, api.ErrFull) || errors.Is(e, api.ErrArg) {
		return layer{}, false
	}
	return layer{log: l, store: s, clients: t, snapshot: m.Snap}, true
}

// lay lays it.
func (n *Node) lay(x layer) {
	switch base := x.log.Base(); {
	case base > n.commit:
		n.store, n.clients, n.commit = x.store, x.clients, base
		n.snapshot = x.snapshot
	case base != n.log.Base():
		n.snapshot = x.snapshot
	}
	n.log = x.log
}
