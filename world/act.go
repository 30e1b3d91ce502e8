package world

import (
	"cmp"
	"slices"

	"blazon/api"
	"blazon/message"
	"blazon/replica"
)

// act is what a kind of act does, and why it is refused, if it is.
type act struct {
	may func(w *World, a api.Act) api.Errno
	do  func(w *World, a api.Act)
}

// acts are the acts, by their kinds.
func acts() map[api.ActKind]act {
	return map[api.ActKind]act{
		api.ActAsk:      {(*World).mayAsk, (*World).ask},
		api.ActCarry:    {(*World).mayCarry, (*World).carry},
		api.ActTick:     {(*World).mayTake, (*World).tick},
		api.ActRetry:    {(*World).mayRetry, (*World).retry},
		api.ActOff:      {(*World).mayTake, (*World).off},
		api.ActOn:       {(*World).mayOn, (*World).on},
		api.ActBytes:    {(*World).mayTake, (*World).bytes},
		api.ActCarryAll: {(*World).mayAll, (*World).carryAll},
	}
}

// Do does an act.
func (w *World) Do(a api.Act) api.Errno {
	if w.none() {
		return api.ErrNil
	}
	e := w.try(a)
	w.clock++
	return e
}

// try does an act, if it may be.
func (w *World) try(a api.Act) api.Errno {
	x, is := acts()[a.Kind]
	if !is {
		return api.ErrArg
	}
	if e := x.may(w, a); e != api.OK {
		return e
	}
	if len(w.net) >= api.MaxNet {
		return api.ErrFull
	}
	x.do(w, a)
	if w.down() > w.setup.F {
		w.unfair = true
	}
	return api.OK
}

// down is how many nodes are without power, or came back and are Recover.
func (w *World) down() int {
	n := 0
	for _, x := range w.nodes {
		if x == nil || x.Mode() == api.Recover {
			n++
		}
	}
	return n
}

// send puts into the net what was sent.
func (w *World) send(l []api.Sent) {
	for _, s := range l {
		w.waiting = append(w.waiting, len(w.net))
		w.net = append(w.net, s)
	}
}

// took notes what a node did, and what it sends.
func (w *World) took(n *replica.Node, sent []api.Sent) {
	for _, d := range n.Did() {
		at, is := slices.BinarySearchFunc(w.did, d, func(a, b api.Did) int { return cmp.Compare(a.At, b.At) })
		switch {
		case !is:
			w.apart = w.apart || d.At != uint64(len(w.did))+1
			w.did = slices.Insert(w.did, at, d)
		case !message.SameRequest(w.did[at].Request, d.Request) || !message.SameResult(w.did[at].Result, d.Result):
			w.apart = true
		}
	}
	w.send(sent)
}

// client is the session of a client that an act names.
func (w *World) client(a api.Act) (uint64, api.Errno) {
	if a.Who < firstClient || a.Who-firstClient >= len(w.sessions) {
		return 0, api.ErrArg
	}
	return uint64(a.Who), api.OK
}

// mayAsk: may a client ask?
func (w *World) mayAsk(a api.Act) api.Errno {
	c, e := w.client(a)
	if e == api.OK {
		_, _, e = w.Session(c).Copy().Ask(a.Op)
	}
	return e
}

// ask has a client ask.
func (w *World) ask(a api.Act) {
	s := w.Session(uint64(a.Who))
	num, sent, e := s.Ask(a.Op)
	if e != api.OK {
		return
	}
	r, _ := s.Under()
	w.calls = append(w.calls, api.Call{Client: s.Client(), Num: num, Op: r.Op, From: w.clock})
	w.send(sent)
}

// mayRetry: is there the client?
func (w *World) mayRetry(a api.Act) api.Errno {
	_, e := w.client(a)
	return e
}

// retry is a client's timer.
func (w *World) retry(a api.Act) { w.send(w.Session(uint64(a.Who)).Tick()) }

// mayCarry: does something stand in the net?
func (w *World) mayCarry(api.Act) api.Errno {
	if len(w.net) == 0 {
		return api.ErrArg
	}
	return api.OK
}

// carry carries what stands at a place of the net.
func (w *World) carry(a api.Act) {
	many := len(w.net)
	at := (a.N%many + many) % many
	if i, waits := slices.BinarySearch(w.waiting, at); waits {
		w.waiting = slices.Delete(w.waiting, i, i+1)
	}
	w.deliver(at)
}

// mayAll: it may be, whatever there is.
func (w *World) mayAll(api.Act) api.Errno { return api.OK }

// carryAll carries all that waits, and what comes to it meanwhile.
func (w *World) carryAll(api.Act) {
	i := 0
	for ; i < len(w.waiting) && i < api.MaxCarry; i++ {
		w.deliver(w.waiting[i])
	}
	w.waiting = w.waiting[i:]
}

// deliver has what stands at a place of the net be taken by whom it goes to.
func (w *World) deliver(at int) {
	s := w.net[at]
	if s.To == toClient {
		w.answer(s)
		return
	}
	if n := w.Node(s.To); n != nil {
		w.took(n, n.Take(s.Bytes))
	}
}

// answer has a client take what goes to it.
func (w *World) answer(s api.Sent) {
	c := w.Session(s.Client) // nil, where there is no such client: it takes nothing
	r, is := c.Take(s.Bytes)
	if !is {
		return
	}
	for i, x := range w.calls {
		if x.Client == c.Client() && x.Num == c.Num() {
			w.calls[i].Done, w.calls[i].To, w.calls[i].Result = true, w.clock, r
		}
	}
}

// mayNode: is there the node?
func (w *World) mayNode(a api.Act) api.Errno {
	if a.Who < 0 || a.Who >= len(w.nodes) {
		return api.ErrArg
	}
	return api.OK
}

// mayTake: has the node power?
func (w *World) mayTake(a api.Act) api.Errno {
	e := w.mayNode(a)
	if e == api.OK && w.nodes[a.Who] == nil {
		e = api.ErrState
	}
	return e
}

// tick is a node's timer.
func (w *World) tick(a api.Act) {
	n := w.nodes[a.Who]
	w.took(n, n.Tick())
}

// off takes a node's power.
func (w *World) off(a api.Act) { w.nodes[a.Who] = nil }

// mayOn: may a node come back?
func (w *World) mayOn(a api.Act) api.Errno {
	e := w.mayNode(a)
	switch {
	case e != api.OK:
		return e
	case w.nodes[a.Who] != nil:
		return api.ErrState
	case a.Nonce == 0:
		return api.ErrArg
	}
	return api.OK
}

// on has a node come back.
func (w *World) on(a api.Act) {
	n, sent, e := replica.Back(w.config(a.Who), w.names, w.col, a.Nonce)
	if e != api.OK {
		return
	}
	if a.Nonce <= w.nonces[a.Who] {
		w.unfair = true
	}
	w.nonces[a.Who] = a.Nonce
	w.nodes[a.Who] = n
	w.send(sent)
}

// bytes has a node take bytes that nobody sent.
func (w *World) bytes(a api.Act) {
	if message.Check(a.Bytes) == nil {
		w.unfair = true
	}
	n := w.nodes[a.Who]
	w.took(n, n.Take(a.Bytes))
}
