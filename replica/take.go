package replica

import (
	"slices"

	"blazon/api"
	"blazon/message"
)

// takers are what each message does: is it taken, or else dropped?
func takers() map[api.MsgKind]func(n *Node, m api.Message) bool {
	return map[api.MsgKind]func(n *Node, m api.Message) bool{
		api.MsgRequest:   (*Node).takeRequest,
		api.MsgPrepare:   (*Node).takePrepare,
		api.MsgPrepareOK: (*Node).takePrepareOK,
		api.MsgCommit:    (*Node).takeCommit,
		api.MsgStart:     (*Node).takeStart,
		api.MsgDo:        (*Node).takeDo,
		api.MsgView:      (*Node).takeView,
		api.MsgRecovery:  (*Node).takeRecovery,
		api.MsgRecovered: (*Node).takeRecovered,
		api.MsgGet:       (*Node).takeGet,
		api.MsgState:     (*Node).takeState,
	}
}

// Take is a message that comes.
func (n *Node) Take(b []byte) []api.Sent {
	if n.none() {
		return nil
	}
	n.did = nil
	m, e := message.Of(b)
	take := takers()[m.Kind]
	if e != api.OK || take == nil || !n.granted(m) || !take(n, m) {
		n.dropped++
	}
	return n.sent()
}

// granted: is what each message of a kind needs there, whatever the node's status is?
func (n *Node) granted(m api.Message) bool {
	switch m.Kind {
	case api.MsgStart, api.MsgDo, api.MsgRecovered:
		if len(m.Seen) == n.many() && n.other(m.From) && m.Seen[m.From] < n.seen[m.From] {
			return false // of an elder age
		}
		fallthrough
	case api.MsgPrepareOK, api.MsgRecovery, api.MsgGet:
		if !n.other(m.From) {
			return false
		}
	}
	switch m.Kind {
	case api.MsgStart, api.MsgDo, api.MsgView, api.MsgRecovered:
		return len(m.Seen) == n.many()
	}
	return true
}

// takeRequest takes what a client asks.
func (n *Node) takeRequest(m api.Message) bool {
	if !n.Primary() {
		return false
	}
	r := m.Request
	age, result := n.clients.Ask(r.Client, r.Num)
	switch age {
	case api.AgeOld:
		return false
	case api.AgeSame:
		n.reply(r, result)
		return true
	}
	waiting, _ := n.log.From(n.commit)
	if slices.ContainsFunc(waiting, func(x api.Request) bool { return x.Client == r.Client && x.Num >= r.Num }) {
		return false
	}
	at, e := n.log.Append(r)
	if e != api.OK {
		return false
	}
	n.sendAll(n.prepare(at, r))
	return true
}

// prepare is what tells others of a request at a place.
func (n *Node) prepare(at uint64, r api.Request) api.Message {
	return api.Message{Kind: api.MsgPrepare, View: n.view, Request: r, At: at, Commit: n.commit}
}

// prepareOK tells the primary up to which place the node has the log.
func (n *Node) prepareOK() {
	n.send(n.primary(n.view), api.Message{Kind: api.MsgPrepareOK, View: n.view, At: n.log.End(), From: n.config.Node})
}

// get is what asks for what stands behind a place.
func (n *Node) get(at uint64) api.Message {
	return api.Message{Kind: api.MsgGet, View: n.view, At: at, From: n.config.Node}
}

// follows: is it Normal in a view, and not its primary?
func (n *Node) follows(view uint64) bool {
	return n.mode == api.Normal && n.view == view && !n.leads(view)
}

// fetch goes to a later view, and asks its primary for what it has missed: is there somebody else to be asked?
func (n *Node) fetch(view uint64) bool {
	if n.mode == api.Recover || n.leads(view) {
		return false
	}
	n.view, n.mode = view, api.Fetch
	n.forget()
	n.send(n.primary(view), n.get(n.commit))
	return true
}

// takePrepare takes a request at a place.
func (n *Node) takePrepare(m api.Message) bool {
	if m.View > n.view {
		return n.fetch(m.View)
	}
	if !n.follows(m.View) {
		return false
	}
	if m.At == n.log.End()+1 {
		if _, e := n.log.Append(m.Request); e != api.OK {
			return false
		}
	}
	n.heard = true
	if m.At > n.log.End() {
		n.send(n.primary(n.view), n.get(n.log.End()))
	} else {
		n.prepareOK()
	}
	n.doUpTo(m.Commit)
	return true
}

// takePrepareOK takes up to which place a node has the log.
func (n *Node) takePrepareOK(m api.Message) bool {
	if m.View != n.view || !n.Primary() {
		return false
	}
	n.has[m.From] = max(n.has[m.From], min(m.At, n.log.End()))
	rising := slices.Clone(n.has[:n.many()]) // of itself it has noted nothing
	slices.Sort(rising)
	n.doUpTo(rising[n.many()-n.config.F])
	return true
}

// takeCommit takes up to which place the primary has done all.
func (n *Node) takeCommit(m api.Message) bool {
	if m.View > n.view {
		return n.fetch(m.View)
	}
	if !n.follows(m.View) {
		return false
	}
	n.heard = true
	if m.Commit > n.log.End() {
		n.send(n.primary(n.view), n.get(n.log.End()))
	}
	n.doUpTo(m.Commit)
	return true
}

// takeGet takes what asks for what stands behind a place.
func (n *Node) takeGet(m api.Message) bool {
	if n.mode != api.Normal || m.View != n.view {
		return false
	}
	state := api.Message{Kind: api.MsgState, View: n.view, Commit: n.commit}
	if l, e := n.log.From(m.At); e == api.OK {
		state.Base, state.Log = m.At, l
	} else {
		state.Base, state.Snap, state.Log = n.log.Base(), n.snapshot, n.all()
	}
	n.send(m.From, state)
	return true
}

// all is what stands in the log.
func (n *Node) all() []api.Request {
	l, _ := n.log.From(n.log.Base())
	return l
}

// takeState takes what stands behind a place, or all.
func (n *Node) takeState(m api.Message) bool {
	fetches := n.mode == api.Fetch && n.view == m.View
	if !fetches && !n.follows(m.View) {
		return false
	}
	if len(m.Snap) == 0 && !n.append(m, fetches) || len(m.Snap) > 0 && !n.replace(m, fetches) {
		return false
	}
	n.settle(m.View)
	n.heard = true
	n.prepareOK()
	n.doUpTo(m.Commit)
	return true
}

// append appends what of a message's log stands behind the end; can it be?
func (n *Node) append(m api.Message, fetches bool) bool {
	if m.Base > n.log.End() || fetches && m.Base < n.commit {
		return false
	}
	l := n.log.Copy()
	if fetches && l.Cut(m.Base) != api.OK {
		return false
	}
	behind := l.End() - m.Base // how many of them stand there already
	for _, r := range m.Log[min(behind, uint64(len(m.Log))):] {
		if _, e := l.Append(r); e != api.OK {
			return false
		}
	}
	n.log = l
	return true
}

// replace lays a message's log, if that goes on further; can it be?
func (n *Node) replace(m api.Message, fetches bool) bool {
	if m.Base <= n.commit || !fetches && end(m) < n.log.End() {
		return false
	}
	x, is := n.layerOf(m)
	if is {
		n.lay(x)
	}
	return is
}
