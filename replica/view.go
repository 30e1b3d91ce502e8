package replica

import "blazon/api"

// learn learns what was seen: what a node told at an age below what is seen of it counts no more.
func (n *Node) learn(seen []uint64) {
	for i, age := range seen {
		n.seen[i] = max(n.seen[i], age)
		n.starts.forget(i, n.seen[i])
		n.dos.forget(i, n.seen[i])
		n.recovered.forget(i, n.seen[i])
	}
}

// forget lets all go that was told.
func (n *Node) forget() {
	n.starts, n.dos, n.recovered = tellers{}, tellers{}, tellers{}
	n.sentDo = false
}

// settle makes it Normal in a view.
func (n *Node) settle(view uint64) {
	n.view, n.normal, n.mode = view, view, api.Normal
	n.forget()
}

// change changes to a view.
func (n *Node) change(view uint64) {
	n.view, n.mode, n.heard = view, api.Change, true
	n.forget()
	n.sendStart()
}

// sendStart tells all that it changes.
func (n *Node) sendStart() {
	n.sendAll(api.Message{Kind: api.MsgStart, View: n.view, From: n.config.Node, Seen: n.Seen()})
}

// whole is a message of a kind with all that it has.
func (n *Node) whole(kind api.MsgKind) api.Message {
	return api.Message{Kind: kind, View: n.view, Base: n.log.Base(), Snap: n.snapshot, Log: n.all(), Commit: n.commit, Seen: n.Seen()}
}

// sendDo tells the primary what it has.
func (n *Node) sendDo() {
	if n.leads(n.view) {
		n.gather()
		return
	}
	m := n.whole(api.MsgDo)
	m.Normal, m.From = n.normal, n.config.Node
	n.send(n.primary(n.view), m)
}

// changes: does it change to a view, or may it?
func (n *Node) changes(view uint64) bool {
	return n.mode != api.Recover && (view > n.view || view == n.view && n.mode == api.Change)
}

// takeStart takes that a node changes.
func (n *Node) takeStart(m api.Message) bool {
	if !n.changes(m.View) {
		return false
	}
	n.learn(m.Seen)
	if m.View > n.view {
		n.change(m.View)
	}
	n.starts[m.From] = told{is: true, m: m}
	if !n.sentDo && n.starts.count() >= n.config.F {
		n.sentDo = true
		n.sendDo()
	}
	return true
}

// takeDo takes what a node has.
func (n *Node) takeDo(m api.Message) bool {
	if !n.changes(m.View) || !n.leads(m.View) {
		return false
	}
	n.learn(m.Seen)
	if m.View > n.view {
		n.change(m.View)
	}
	n.dos[m.From] = told{is: true, m: m}
	n.gather()
	return true
}

// end is where a message's log ends; a base that no log may have can't run over.
func end(m api.Message) uint64 { return min(m.Base, 1<<63) + uint64(len(m.Log)) }

// gather lays the best of what F others and itself have, and begins the view.
func (n *Node) gather() {
	if n.mode != api.Change || n.dos.count() < n.config.F {
		return
	}
	best, commit := n.whole(api.MsgDo), n.commit
	best.Normal = n.normal
	for _, x := range n.dos {
		if !x.is {
			continue
		}
		commit = max(commit, x.m.Commit)
		if x.m.Normal > best.Normal || x.m.Normal == best.Normal && end(x.m) > end(best) {
			best = x.m
		}
	}
	x, is := n.layerOf(best)
	if !is {
		return
	}
	n.lay(x)
	n.settle(n.view)
	n.has = [api.MaxNodes]uint64{}
	n.sendAll(n.whole(api.MsgView))
	n.doUpTo(commit)
}

// takeView takes that a view begins.
func (n *Node) takeView(m api.Message) bool {
	waits := m.View > n.view || m.View == n.view && (n.mode == api.Change || n.mode == api.Fetch)
	if n.mode == api.Recover || n.leads(m.View) || !waits {
		return false
	}
	x, is := n.layerOf(m)
	if !is {
		return false
	}
	n.learn(m.Seen)
	n.lay(x)
	n.settle(m.View)
	n.heard = true
	if n.log.End() > m.Commit {
		n.prepareOK()
	}
	n.doUpTo(m.Commit)
	return true
}

// askAll asks all others what they have.
func (n *Node) askAll() {
	n.sendAll(api.Message{Kind: api.MsgRecovery, From: n.config.Node, Nonce: n.age})
}

// takeRecovery takes that a node comes back.
func (n *Node) takeRecovery(m api.Message) bool {
	if n.mode != api.Normal || m.Nonce < n.seen[m.From] {
		return false
	}
	seen := n.Seen()
	seen[m.From] = m.Nonce
	n.learn(seen)
	answer := api.Message{Kind: api.MsgRecovered, View: n.view, Seen: n.Seen()}
	if n.Primary() {
		answer = n.whole(api.MsgRecovered)
		answer.Whole = true
	}
	answer.Nonce, answer.From = m.Nonce, n.config.Node
	n.send(m.From, answer)
	return true
}

// takeRecovered takes what a node has for one that comes back.
func (n *Node) takeRecovered(m api.Message) bool {
	if n.mode != api.Recover || m.Nonce != n.age {
		return false
	}
	n.learn(m.Seen)
	if old := n.recovered[m.From]; !old.is || m.View >= old.m.View {
		n.recovered[m.From] = told{is: true, m: m}
	}
	n.restore()
	return true
}

// restore goes on as the primary of the greatest view tells, once enough have told.
func (n *Node) restore() {
	if n.recovered.count() < n.config.F+1 {
		return
	}
	view := uint64(0)
	for _, x := range n.recovered {
		if x.is {
			view = max(view, x.m.View)
		}
	}
	from := n.recovered[n.primary(view)]
	if !from.is || !from.m.Whole || from.m.View != view {
		return
	}
	x, is := n.layerOf(from.m)
	if !is {
		return
	}
	n.lay(x)
	n.settle(view)
	n.heard = true
	n.doUpTo(from.m.Commit)
}

// Tick is its timer.
func (n *Node) Tick() []api.Sent {
	if n.none() {
		return nil
	}
	n.did = nil
	switch {
	case n.mode == api.Fetch:
		n.sendAll(n.get(n.commit))
	case n.mode == api.Recover:
		n.askAll()
	case n.Primary():
		n.remind()
	case !n.heard:
		n.change(n.view + 1)
	default:
		n.heard = false
		if n.mode == api.Change {
			n.sendStart()
			if n.sentDo {
				n.sendDo()
			}
		}
	}
	return n.sent()
}

// remind tells each other node what it needs next, or, where it has all, what is done.
func (n *Node) remind() {
	for to := range n.many() {
		if !n.other(to) {
			continue
		}
		at := max(n.has[to], n.log.Base()) + 1
		if r, e := n.log.At(at); e == api.OK {
			n.send(to, n.prepare(at, r))
		} else {
			n.send(to, api.Message{Kind: api.MsgCommit, View: n.view, Commit: n.commit})
		}
	}
}
