package world_test

import (
	"fmt"
	"slices"
	"strings"
	"testing"

	"blazon/api"
	"blazon/message"
	"blazon/world"
)

// setup is a setup of 2F + 1 nodes.
func setup(f, clients int) api.Setup {
	return api.Setup{
		F: f, Clients: clients, Every: 3, Quota: api.Quota{Entries: 9, Bytes: 999}, Options: api.Options{Levels: 3},
		Tables: api.Tables{Folding: "0041; C; 0061;\n", Weights: "0061 ; [.1C47.0020.0002]\n"},
	}
}

// of is a new world.
func of(t *testing.T, f, clients int) *world.World {
	t.Helper()
	w, e := world.New(setup(f, clients))
	if w == nil || e != api.OK {
		t.Fatal(e)
	}
	return w
}

// does has a world do acts, and fails the test unless none is refused.
func does(t *testing.T, w *world.World, l ...api.Act) {
	t.Helper()
	for i, a := range l {
		if e := w.Do(a); e != api.OK {
			t.Fatalf("%d: %+v: %v", i, a, e)
		}
	}
}

// refuses fails the test unless an act is refused, and changes nothing but the clock.
func refuses(t *testing.T, w *world.World, a api.Act, want api.Errno) {
	t.Helper()
	kept := w.Copy()
	if e := w.Do(a); e != want {
		t.Errorf("%+v: %v, not %v", a, e, want)
	}
	if w.Acts() != kept.Acts()+1 {
		t.Errorf("the clock: %d", w.Acts())
	}
	same(t, w, kept)
}

// same fails the test unless two worlds stand the same, but for the clock.
func same(t *testing.T, a, b *world.World) {
	t.Helper()
	for i := range 2*a.Setup().F + 1 {
		if x, y := a.Node(i), b.Node(i); !x.Same(y) || x.Dropped() != y.Dropped() {
			t.Errorf("the node %d", i)
		}
	}
	for c := range uint64(a.Setup().Clients) {
		x, y := a.Session(c+1), b.Session(c+1)
		_, isX := x.Under()
		_, isY := y.Under()
		if x.Num() != y.Num() || x.View() != y.View() || x.Dropped() != y.Dropped() || isX != isY {
			t.Errorf("the client %d", c+1)
		}
	}
	if !slices.EqualFunc(a.Net(), b.Net(), func(x, y api.Sent) bool { return fmt.Sprint(x) == fmt.Sprint(y) }) || a.Waiting() != b.Waiting() {
		t.Error("the net")
	}
	if fmt.Sprint(a.History()) != fmt.Sprint(b.History()) || fmt.Sprint(a.Order()) != fmt.Sprint(b.Order()) || a.Agrees() != b.Agrees() || a.Fair() != b.Fair() || a.Setup() != b.Setup() {
		t.Error("the history")
	}
}

// add is an operation that adds a name.
func add(name string) api.Op { return api.Op{Kind: api.OpAdd, Name: name} }

// ask is an act: a client asks.
func ask(who int, o api.Op) api.Act { return api.Act{Kind: api.ActAsk, Who: who, Op: o} }

// on is an act of a kind, and who does it.
func on(k api.ActKind, who int) api.Act { return api.Act{Kind: k, Who: who} }

// carry is an act that carries what stands at a place.
func carry(n int) api.Act { return api.Act{Kind: api.ActCarry, N: n} }

var all = api.Act{Kind: api.ActCarryAll}

// net is all that was sent, as a text: whom it goes to, and its kind.
func net(t *testing.T, w *world.World) string {
	t.Helper()
	var s []string
	for _, x := range w.Net() {
		m, e := message.Of(x.Bytes)
		if e != api.OK {
			t.Fatal(e)
		}
		to := fmt.Sprint(x.To)
		if x.To < 0 {
			to = fmt.Sprint("c", x.Client)
		}
		s = append(s, fmt.Sprint(to, ":", m.Kind))
	}
	return strings.Join(s, " ")
}

func TestP28_1New(t *testing.T) {
	for f := 1; f <= 3; f++ {
		for clients := 1; clients <= 4; clients++ {
			w := of(t, f, clients)
			if w.Setup() != setup(f, clients) || w.Acts() != 0 || !w.Fair() || !w.Agrees() || w.Waiting() != 0 || len(w.Net()) != 0 || len(w.History()) != 0 || len(w.Order()) != 0 || w.Names() == nil || w.Collator() == nil {
				t.Errorf("%d %d", f, clients)
			}
			for i := -2; i < 9; i++ {
				n := w.Node(i)
				if is := i >= 0 && i < 2*f+1; is != (n != nil) || is && (n.Mode() != api.Normal || n.Config() != (api.Config{F: f, Node: i, Every: 3, Quota: setup(f, 1).Quota})) {
					t.Errorf("the node %d", i)
				}
			}
			for c := range uint64(8) {
				s := w.Session(c)
				if is := c >= 1 && c <= uint64(clients); is != (s != nil) || is && s.Client() != c {
					t.Errorf("the client %d", c)
				}
			}
			if w.Session(1<<64-1) != nil || w.Node(1<<62) != nil {
				t.Error("far ones")
			}
		}
	}
}

func TestP28_1NewErrors(t *testing.T) {
	long := strings.Repeat("\n", api.MaxTable+1)
	for i, x := range []struct {
		spoil func(s *api.Setup)
		want  api.Errno
	}{
		{func(s *api.Setup) { s.Tables.Data = "x" }, api.ErrTable}, {func(s *api.Setup) { s.Tables.Exclusions = "x" }, api.ErrTable}, {func(s *api.Setup) { s.Tables.Folding = "x" }, api.ErrTable}, {func(s *api.Setup) { s.Tables.Weights = "x" }, api.ErrTable},
		{func(s *api.Setup) { s.Tables.Data = long }, api.ErrLong}, {func(s *api.Setup) { s.Tables.Weights = long }, api.ErrLong}, {func(s *api.Setup) { s.Tables.Folding, s.F = long, 9 }, api.ErrLong}, {func(s *api.Setup) { s.Tables.Weights, s.F = "x", 9 }, api.ErrTable},
		{func(s *api.Setup) { s.F = 0 }, api.ErrArg}, {func(s *api.Setup) { s.F = 4 }, api.ErrArg}, {func(s *api.Setup) { s.F = -1 }, api.ErrArg}, {func(s *api.Setup) { s.Clients = 0 }, api.ErrArg}, {func(s *api.Setup) { s.Clients = 5 }, api.ErrArg},
		{func(s *api.Setup) { s.Every = 0 }, api.ErrArg}, {func(s *api.Setup) { s.Every = 4097 }, api.ErrArg}, {func(s *api.Setup) { s.Quota.Entries = 1001 }, api.ErrArg}, {func(s *api.Setup) { s.Quota.Bytes = -1 }, api.ErrArg}, {func(s *api.Setup) { s.Options.Levels = 0 }, api.ErrArg}, {func(s *api.Setup) { s.Options.Levels = 5 }, api.ErrArg},
	} {
		s := setup(1, 1)
		x.spoil(&s)
		if w, e := world.New(s); w != nil || e != x.want {
			t.Errorf("%d: %v", i, e)
		}
		if w, errors, e := world.Run(s, all); w != nil || len(errors) != 0 || e != x.want {
			t.Errorf("%d: %v", i, e)
		}
	}
}

func TestP28_1AskCarryAll(t *testing.T) {
	w := of(t, 1, 2)
	does(t, w, ask(2, add("a")))
	if net(t, w) != "0:1" || w.Waiting() != 1 || w.Acts() != 1 {
		t.Error(net(t, w), w.Waiting())
	}
	h := w.History()
	if len(h) != 1 || h[0].Client != 2 || h[0].Num != 1 || h[0].Op.Name != "a" || h[0].From != 0 || h[0].To != 0 || h[0].Done || !message.SameResult(h[0].Result, api.Result{}) {
		t.Error(h)
	}
	does(t, w, on(api.ActTick, 0), all)
	// request; commits of the timer; prepares; both told that they have it; the reply
	if net(t, w) != "0:1 1:5 2:5 1:3 2:3 0:4 0:4 c2:2" || w.Waiting() != 0 {
		t.Error(net(t, w), w.Waiting())
	}
	h = w.History()
	if len(h) != 1 || h[0].From != 0 || h[0].To != 2 || !h[0].Done || h[0].Result.Code != api.OK || len(w.Order()) != 1 || w.Order()[0].Client != 2 || !w.Agrees() || !w.Fair() {
		t.Error(h, w.Order())
	}
	does(t, w, ask(1, add("A")), ask(2, api.Op{Kind: api.OpLookup, Name: "A"}), all)
	h = w.History()
	if len(h) != 3 || h[1].From != 3 || h[1].To != 5 || h[1].Result.Code != api.ErrExists || h[2].From != 4 || h[2].Num != 2 || h[2].To != 5 || len(h[2].Result.Entries) != 1 {
		t.Error(h)
	}
	if w.Session(2).Num() != 2 || w.Node(0).Commit() != 3 {
		t.Error(w.Session(2).Num())
	}
	// Of two requests of one number just the one is answered that is.
	w = of(t, 1, 2)
	does(t, w, ask(1, add("a")), ask(2, add("b")), carry(1), carry(2), carry(4), carry(5))
	if h := w.History(); h[0].Done || !h[1].Done || h[1].To != 5 {
		t.Error(h)
	}
}

func TestP28_1Carry(t *testing.T) {
	w := of(t, 1, 1)
	refuses(t, w, carry(0), api.ErrArg)
	does(t, w, ask(1, add("a")), carry(0))
	if net(t, w) != "0:1 1:3 2:3" || w.Waiting() != 2 {
		t.Error(net(t, w), w.Waiting())
	}
	does(t, w, carry(5)) // the place 5 modulo 3
	if net(t, w) != "0:1 1:3 2:3 0:4" || w.Waiting() != 2 || w.Node(1).Log().Len() != 0 || w.Node(2).Log().Len() != 1 {
		t.Error(net(t, w), w.Waiting())
	}
	does(t, w, carry(2)) // once more
	if net(t, w) != "0:1 1:3 2:3 0:4 0:4" || w.Waiting() != 3 {
		t.Error(net(t, w), w.Waiting())
	}
	does(t, w, carry(3))
	if w.Waiting() != 3 || w.Node(0).Commit() != 1 {
		t.Error(w.Waiting(), w.Node(0).Commit())
	}
	does(t, w, carry(5))
	if h := w.History(); !h[0].Done || h[0].To != 6 {
		t.Error(h)
	}
	does(t, w, carry(5)) // a reply that comes twice
	if h := w.History(); h[0].To != 6 || w.Session(1).Dropped() != 0 {
		t.Error(h)
	}
	does(t, w, all)
	if w.Waiting() != 0 || w.Node(1).Log().Len() != 1 {
		t.Error(w.Waiting())
	}
}

func TestP28_1OffOn(t *testing.T) {
	w := of(t, 1, 1)
	does(t, w, ask(1, add("a")), all, on(api.ActOff, 1))
	if w.Node(1) != nil || !w.Fair() {
		t.Error("it has power")
	}
	for _, k := range []api.ActKind{api.ActTick, api.ActOff, api.ActBytes} {
		refuses(t, w, on(k, 1), api.ErrState)
	}
	does(t, w, on(api.ActTick, 0), all) // what goes to it comes to nothing, and waits no more
	if w.Waiting() != 0 {
		t.Error(w.Waiting())
	}
	refuses(t, w, api.Act{Kind: api.ActOn, Who: 0, Nonce: 5}, api.ErrState)
	refuses(t, w, api.Act{Kind: api.ActOn, Who: 0}, api.ErrState)
	refuses(t, w, api.Act{Kind: api.ActOn, Who: 1}, api.ErrArg)
	does(t, w, api.Act{Kind: api.ActOn, Who: 1, Nonce: 5})
	if n := w.Node(1); n.Mode() != api.Recover || n.Commit() != 0 || n.Config().Node != 1 || w.Waiting() != 2 {
		t.Error(n.Mode(), w.Waiting())
	}
	does(t, w, all)
	if n := w.Node(1); n.Mode() != api.Normal || n.Commit() != 1 || n.Store().Len() != 1 || !w.Fair() || !w.Agrees() {
		t.Error(n.Mode(), n.Commit())
	}
}

func TestP28_1Retry(t *testing.T) {
	w := of(t, 1, 1)
	does(t, w, on(api.ActRetry, 1))
	if len(w.Net()) != 0 {
		t.Error(net(t, w))
	}
	does(t, w, ask(1, add("a")), on(api.ActRetry, 1))
	if net(t, w) != "0:1 0:1 1:1 2:1" {
		t.Error(net(t, w))
	}
	does(t, w, all)
	if len(w.Order()) != 1 || w.Node(1).Dropped() != 1 {
		t.Error(w.Order())
	}
}

func TestP28_1Bytes(t *testing.T) {
	w := of(t, 1, 1)
	does(t, w, api.Act{Kind: api.ActBytes, Who: 2, Bytes: []byte("x")}, api.Act{Kind: api.ActBytes, Who: 2})
	if w.Node(2).Dropped() != 2 || !w.Fair() {
		t.Error(w.Node(2).Dropped(), w.Fair())
	}
	b, _ := message.Bytes(api.Message{Kind: api.MsgRequest, Request: api.Request{Client: 9, Num: 1, Op: add("a")}})
	c := w.Copy()
	does(t, c, on(api.ActOff, 0))
	refuses(t, c, api.Act{Kind: api.ActBytes, Who: 0, Bytes: b}, api.ErrState)
	if !c.Fair() {
		t.Error("what is refused makes no world unfair")
	}
	does(t, w, api.Act{Kind: api.ActBytes, Who: 0, Bytes: b})
	if w.Fair() || net(t, w) != "1:3 2:3" {
		t.Error(w.Fair(), net(t, w))
	}
	does(t, w, all) // the reply goes to a client that there is not
	if len(w.History()) != 0 || len(w.Order()) != 1 || w.Waiting() != 0 {
		t.Error(w.Order())
	}
}

func TestP28_1Errors(t *testing.T) {
	w := of(t, 1, 2)
	for _, k := range []api.ActKind{0, -1, 9, 1 << 40} {
		refuses(t, w, api.Act{Kind: k}, api.ErrArg)
	}
	for _, k := range []api.ActKind{api.ActAsk, api.ActRetry} {
		for _, who := range []int{0, -1, 3, 1 << 62, -1 << 63} {
			refuses(t, w, api.Act{Kind: k, Who: who, Op: add("a")}, api.ErrArg)
		}
	}
	for _, k := range []api.ActKind{api.ActTick, api.ActOff, api.ActOn, api.ActBytes} {
		for _, who := range []int{-1, 3, 1 << 62, -1 << 63} {
			refuses(t, w, api.Act{Kind: k, Who: who, Nonce: 1}, api.ErrArg)
		}
	}
	refuses(t, w, ask(1, api.Op{}), api.ErrArg)
	does(t, w, ask(1, add("a")))
	refuses(t, w, ask(1, add("b")), api.ErrState)
	refuses(t, w, ask(1, api.Op{}), api.ErrArg)
	// What a kind does not name is not looked at.
	does(t, w, api.Act{Kind: api.ActCarryAll, Who: 99, N: -5, Op: api.Op{Kind: 99}, Bytes: []byte("x")}, api.Act{Kind: api.ActTick, N: -1, Bytes: []byte("x")})
	if !w.Fair() {
		t.Error("bytes that are not named were looked at")
	}
}

func TestP28_1Limits(t *testing.T) {
	w := of(t, 3, 1)
	does(t, w, ask(1, add("a")))
	for range 300 {
		does(t, w, on(api.ActRetry, 1))
	}
	if w.Waiting() != 2101 {
		t.Fatal(w.Waiting())
	}
	before := len(w.Net())
	does(t, w, all)
	if sent := len(w.Net()) - before; w.Waiting() != 2101+sent-2000 || sent == 0 {
		t.Error(w.Waiting(), sent)
	}
}

func TestP28_1FullNet(t *testing.T) {
	w := of(t, 1, 1)
	does(t, w, ask(1, add("a")))
	for many := 1; many < api.MaxNet; many += 3 {
		does(t, w, on(api.ActRetry, 1))
	}
	if many := len(w.Net()); many != api.MaxNet {
		t.Fatal(many)
	}
	dropped, clock, many := w.Node(0).Dropped(), w.Acts(), len(w.Net())
	for i, a := range []api.Act{all, carry(0), on(api.ActTick, 0), on(api.ActRetry, 1), on(api.ActOff, 0), {Kind: api.ActBytes}} {
		if e := w.Do(a); e != api.ErrFull || w.Acts() != clock+i+1 || len(w.Net()) != many || w.Node(0).Dropped() != dropped {
			t.Error(i, e)
		}
	}
	for _, x := range []struct {
		a    api.Act
		want api.Errno
	}{{ask(1, add("b")), api.ErrState}, {ask(2, add("b")), api.ErrArg}, {on(api.ActOn, 0), api.ErrState}, {on(api.ActTick, 9), api.ErrArg}, {api.Act{}, api.ErrArg}} {
		if e := w.Do(x.a); e != x.want {
			t.Errorf("%+v: %v", x.a, e)
		}
	}
}

func TestP28_1Run(t *testing.T) {
	w, errors, e := world.Run(setup(1, 1), ask(1, add("a")), ask(1, add("b")), api.Act{}, all)
	if e != api.OK || !slices.Equal(errors, []api.Errno{api.OK, api.ErrState, api.ErrArg, api.OK}) || w.Acts() != 4 || len(w.History()) != 1 || w.History()[0].To != 3 {
		t.Error(errors, e)
	}
	if w, errors, e := world.Run(setup(1, 1)); w == nil || len(errors) != 0 || e != api.OK {
		t.Error(e)
	}
}

func TestP28_2Fair(t *testing.T) {
	back := func(who int, nonce uint64) api.Act { return api.Act{Kind: api.ActOn, Who: who, Nonce: nonce} }
	off := func(who int) api.Act { return on(api.ActOff, who) }
	for i, x := range []struct {
		l    []api.Act
		want bool
	}{
		{[]api.Act{off(1)}, true}, {[]api.Act{off(1), off(2)}, false},
		{[]api.Act{off(1), back(1, 5)}, true}, {[]api.Act{off(1), back(1, 5), off(2)}, false}, {[]api.Act{off(1), back(1, 5), off(1)}, true},
		{[]api.Act{off(1), back(1, 5), all, off(2)}, true}, {[]api.Act{off(1), back(1, 5), all, off(2), back(2, 3), all}, true},
		{[]api.Act{off(1), back(1, 5), off(1), back(1, 6)}, true}, {[]api.Act{off(1), back(1, 5), off(1), back(1, 5)}, false}, {[]api.Act{off(1), back(1, 5), off(1), back(1, 4)}, false}, {[]api.Act{off(1), back(1, 5), all, off(1), back(1, 4), all}, false},
		{[]api.Act{off(1), off(2), back(1, 1), back(2, 1), all}, false},
	} {
		w := of(t, 1, 1)
		does(t, w, x.l...)
		if w.Fair() != x.want {
			t.Errorf("%d: %v", i, !x.want)
		}
	}
	w := of(t, 3, 1)
	does(t, w, off(1), off(2), off(3))
	if !w.Fair() {
		t.Error("three of seven")
	}
	does(t, w, off(4))
	if w.Fair() {
		t.Error("four of seven")
	}
	w = of(t, 1, 1)
	does(t, w, off(1), back(1, 5))
	refuses(t, w, back(1, 3), api.ErrState)
	if !w.Fair() {
		t.Error("what is refused makes no world unfair")
	}
}

func TestP28_2Agrees(t *testing.T) {
	bytes := func(m api.Message) []byte {
		b, e := message.Bytes(m)
		if e != api.OK {
			t.Fatal(e)
		}
		return b
	}
	prepare := func(name string, at, commit uint64) []byte {
		return bytes(api.Message{Kind: api.MsgPrepare, Request: api.Request{Client: 1, Num: at, Op: add(name)}, At: at, Commit: commit})
	}
	take := func(who int, b []byte) api.Act { return api.Act{Kind: api.ActBytes, Who: who, Bytes: b} }
	w := of(t, 1, 1)
	does(t, w, take(1, prepare("a", 1, 1)), take(2, prepare("a", 1, 1)))
	if !w.Agrees() || len(w.Order()) != 1 {
		t.Error("they did the same")
	}
	does(t, w, take(1, prepare("a", 2, 2)), take(2, prepare("b", 2, 2)))
	if w.Agrees() || len(w.Order()) != 2 || w.Order()[1].Op.Name != "a" {
		t.Error("they did other things")
	}
	does(t, w, take(1, prepare("c", 3, 3)), take(2, prepare("c", 3, 3)))
	if w.Agrees() || len(w.Order()) != 3 {
		t.Error("it agrees no more")
	}
	// The same request, with another result.
	w = of(t, 1, 1)
	does(t, w, take(1, prepare("a", 1, 1)), take(2, prepare("a", 1, 1)), take(1, prepare("b", 2, 0)), take(2, prepare("b", 2, 0)))
	state := bytes(api.Message{Kind: api.MsgView, View: 1, Base: 0, Snap: emptySnap(t, w), Log: []api.Request{{Client: 1, Num: 1, Op: add("a")}, {Client: 1, Num: 1, Op: add("b")}}, Commit: 2, Seen: []uint64{0, 0, 0}})
	same := bytes(api.Message{Kind: api.MsgCommit, Commit: 2})
	does(t, w, take(2, state), take(1, same))
	if w.Agrees() {
		t.Error("they did other things")
	}
	// A place that is told before the one ahead of it.
	w = of(t, 1, 1)
	m, _ := message.Of(w.Copy().Node(1).Take(bytes(api.Message{Kind: api.MsgGet, At: 9, From: 0}))[0].Bytes)
	far := bytes(api.Message{Kind: api.MsgView, View: 1, Base: 5, Snap: m.Snap, Log: []api.Request{{Client: 1, Num: 1, Op: add("a")}}, Commit: 6, Seen: []uint64{0, 0, 0}})
	does(t, w, take(2, far))
	if w.Agrees() {
		t.Error("the places ahead were not told")
	}
}

// emptySnap is the snapshot of a node that has dropped nothing.
func emptySnap(t *testing.T, w *world.World) []byte {
	t.Helper()
	b, _ := message.Bytes(api.Message{Kind: api.MsgGet, At: 99, From: 0})
	m, e := message.Of(w.Node(1).Copy().Take(b)[0].Bytes)
	if e != api.OK {
		t.Fatal(e)
	}
	return m.Snap
}

func TestP28_2Copy(t *testing.T) {
	w := of(t, 1, 2)
	does(t, w, ask(1, add("a")), carry(0), ask(2, add("b")))
	c := w.Copy()
	same(t, w, c)
	kept := w.Copy()
	does(t, c, all, on(api.ActOff, 0), ask(1, add("c")), on(api.ActTick, 1), on(api.ActTick, 2), all, api.Act{Kind: api.ActOn, Who: 0, Nonce: 4}, on(api.ActOff, 1))
	same(t, w, kept)
	if w.Acts() != 3 || c.Acts() != 11 || c.Fair() || !w.Fair() {
		t.Error(w.Acts(), c.Acts())
	}
	does(t, w, all)
	if h := w.History(); !h[0].Done || !h[1].Done || h[0].To != 3 {
		t.Error(h)
	}
	if h := kept.History(); h[0].Done || len(kept.Order()) != 0 {
		t.Error(h)
	}
	// Each goes on with a net of its own.
	a, b := kept.Copy(), kept.Copy()
	does(t, a, on(api.ActTick, 0))
	does(t, b, on(api.ActRetry, 1), on(api.ActRetry, 2))
	does(t, kept, carry(0), on(api.ActTick, 1))
	for i, x := range []*world.World{a, b, kept} {
		if got, want := net(t, x), []string{"0:1 1:3 2:3 0:1 1:3 2:3", "0:1 1:3 2:3 0:1 0:1 1:1 2:1 0:1 1:1 2:1", "0:1 1:3 2:3 0:1 0:6 2:6"}[i]; got != want {
			t.Errorf("%d: %s, not %s", i, got, want)
		}
	}
}

func TestP28_2Memory(t *testing.T) {
	w := of(t, 1, 1)
	o := add("a")
	o.Attrs = []api.Attr{{Type: "t", Value: "v"}}
	does(t, w, ask(1, o))
	o.Attrs[0].Value = "z"
	does(t, w, all, ask(1, api.Op{Kind: api.OpLookup, Name: "a"}), all)
	kept := w.Copy()
	h := w.History()
	h[0].Op.Attrs[0].Value, h[1].Result.Entries[0].Name, h[1].Result.Entries[0].Attrs[0].Value = "z", "z", "z"
	w.Order()[0].Op.Attrs[0].Value = "z"
	clear(w.Net()[0].Bytes)
	same(t, w, kept)
	if h := w.History(); h[0].Op.Attrs[0].Value != "v" || h[1].Result.Entries[0].Name != "a" || h[1].Result.Entries[0].Attrs[0].Value != "v" || w.Order()[0].Op.Attrs[0].Value != "v" {
		t.Error(h)
	}
}

func TestP28_2NilAndZero(t *testing.T) {
	for _, w := range []*world.World{nil, {}} {
		if e := w.Do(api.Act{}); e != api.ErrNil {
			t.Error(e)
		}
		if w.Node(0) != nil || w.Session(1) != nil || len(w.Net()) != 0 || w.Waiting() != 0 || len(w.History()) != 0 || len(w.Order()) != 0 || w.Agrees() || w.Acts() != 0 || w.Fair() || w.Setup() != (api.Setup{}) || w.Names() != nil || w.Collator() != nil {
			t.Error("nothing has something")
		}
	}
	var none *world.World
	if none.Copy() != nil {
		t.Error("a copy of nil")
	}
}

// script is so many acts by chance, which are fair.
func script(seed uint32, f, clients, many int) []api.Act {
	next := func(n int) int {
		seed = seed*1664525 + 1013904223
		return int(seed>>8) % n
	}
	ops := []func() api.Op{
		func() api.Op { return add(string(rune('a' + next(5)))) },
		func() api.Op { return api.Op{Kind: api.OpDelete, Name: string(rune('a' + next(5)))} },
		func() api.Op { return api.Op{Kind: api.OpLookup, Name: string(rune('A' + next(5)))} },
		func() api.Op { return api.Op{Kind: api.OpPage, N: next(4)} },
	}
	var l []api.Act
	for i := range many {
		switch next(12) {
		case 0, 1:
			l = append(l, ask(1+next(clients), ops[next(len(ops))]()))
		case 2:
			l = append(l, on(api.ActTick, next(2*f+1)))
		case 3:
			l = append(l, on(api.ActRetry, 1+next(clients)))
		case 4:
			l = append(l, all)
		case 5:
			if next(10) == 0 {
				who := next(2*f + 1)
				l = append(l, on(api.ActOff, who), api.Act{Kind: api.ActOn, Who: who, Nonce: uint64(i + 1)}, all, all)
			}
		default:
			l = append(l, carry(next(1000000)))
		}
	}
	return l
}

func TestP28_3TwiceTheSame(t *testing.T) {
	answered, back := 0, 0
	for seed := range uint32(10) {
		f, clients := 1+int(seed)%2, 1+int(seed)%3
		l := script(seed, f, clients, 200)
		a, x, _ := world.Run(setup(f, clients), l...)
		b, y, _ := world.Run(setup(f, clients), l...)
		if !slices.Equal(x, y) || a.Acts() != len(l) {
			t.Error(x, y)
		}
		same(t, a, b)
		if !a.Agrees() {
			t.Errorf("seed %d: it does not agree", seed)
		}
		for _, c := range a.History() {
			if c.Done {
				answered++
			}
			if c.Done && (c.To < c.From || c.To >= len(l)) {
				t.Error(c)
			}
		}
		for i := range 2*f + 1 {
			if a.Node(i).Seen()[i] > 0 {
				back++
			}
		}
	}
	if answered < 50 || back == 0 {
		t.Error(answered, back)
	}
}
