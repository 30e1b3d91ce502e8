package judge_test

import (
	"fmt"
	"testing"

	"blazon/api"
	"blazon/judge"
	"blazon/message"
	"blazon/replica"
	"blazon/world"
)

// setup is a setup of 2F + 1 nodes, whose names are of the letters a to f.
func setup(f, clients int) api.Setup {
	s := api.Setup{F: f, Clients: clients, Every: 3, Quota: api.Quota{Entries: 20, Bytes: 999}, Options: api.Options{Levels: 3}}
	for c := 'a'; c <= 'f'; c++ {
		s.Tables.Weights += fmt.Sprintf("%04X ; [.%04X.0020.0002]\n", c, 0x1000+int(c))
		s.Tables.Folding += fmt.Sprintf("%04X; C; %04X;\n", c-32, c)
	}
	return s
}

// played is the world behind acts, none of which is refused.
func played(t *testing.T, s api.Setup, l ...api.Act) *world.World {
	t.Helper()
	w, errors, e := world.Run(s, l...)
	if e != api.OK {
		t.Fatal(e)
	}
	for i, e := range errors {
		if e != api.OK {
			t.Fatalf("%d: %+v: %v", i, l[i], e)
		}
	}
	return w
}

// The acts.

var all = api.Act{Kind: api.ActCarryAll}

func ask(who int, o api.Op) api.Act { return api.Act{Kind: api.ActAsk, Who: who, Op: o} }

func on(k api.ActKind, who int) api.Act { return api.Act{Kind: k, Who: who} }

func back(who int, nonce uint64) api.Act { return api.Act{Kind: api.ActOn, Who: who, Nonce: nonce} }

func add(name string) api.Op { return api.Op{Kind: api.OpAdd, Name: name} }

func page(cursor string, n int) api.Op {
	return api.Op{Kind: api.OpPage, Cursor: []byte(cursor), N: n}
}

// take has a node take a message that nobody sent.
func take(t *testing.T, who int, m api.Message) api.Act {
	t.Helper()
	b, e := message.Bytes(m)
	if e != api.OK {
		t.Fatal(e)
	}
	return api.Act{Kind: api.ActBytes, Who: who, Bytes: b}
}

// right fails the test unless all verdicts of a fair world are yes.
func right(t *testing.T, what string, w *world.World) {
	t.Helper()
	if v := judge.All(w); v != (api.Verdict{Fair: true, Linear: true, Agrees: true, Walks: true, Lives: true}) {
		t.Errorf("%s: %+v", what, v)
	}
	if rounds := 6*w.Setup().F + 10; !judge.Linear(w) || !judge.Agrees(w) || !judge.Walks(w) || !judge.Lives(w, rounds) || !judge.Lives(w, 100) {
		t.Errorf("%s: one of them alone", what)
	}
}

func TestP30_1Fair(t *testing.T) {
	right(t, "nothing", played(t, setup(1, 1)))
	right(t, "a request", played(t, setup(1, 1), ask(1, add("a")), all))
	right(t, "one that is under way", played(t, setup(2, 1), ask(1, add("a"))))
	right(t, "the primary is without power", played(t, setup(1, 2), ask(1, add("a")), all, on(api.ActOff, 0), ask(2, add("b"))))
	right(t, "a node comes back", played(t, setup(1, 2), ask(1, add("a")), all, on(api.ActOff, 0), back(0, 5), ask(2, add("b"))))
	right(t, "bytes that are none's", played(t, setup(1, 1), ask(1, add("a")), api.Act{Kind: api.ActBytes, Who: 1, Bytes: []byte("x")}))
}

func TestP30_1Unfair(t *testing.T) {
	prepare := func(name string) api.Message {
		return api.Message{Kind: api.MsgPrepare, Request: api.Request{Client: 9, Num: 1, Op: add(name)}, At: 1, Commit: 1}
	}
	w := played(t, setup(1, 1), take(t, 1, prepare("a")), take(t, 2, prepare("b")))
	if w.Agrees() || w.Fair() {
		t.Fatal("it should be neither")
	}
	for i, w := range []*world.World{w, played(t, setup(1, 1), ask(1, add("a")), on(api.ActOff, 0), on(api.ActOff, 1), on(api.ActOff, 2))} {
		if v := judge.All(w); v != (api.Verdict{Linear: true, Agrees: true, Walks: true, Lives: true}) {
			t.Errorf("%d: %+v", i, v)
		}
		if !judge.Linear(w) || !judge.Agrees(w) || !judge.Walks(w) || !judge.Lives(w, 50) {
			t.Errorf("%d: one of them alone", i)
		}
	}
	for _, w := range []*world.World{nil, {}} {
		if !judge.Linear(w) || !judge.Agrees(w) || !judge.Walks(w) || !judge.Lives(w, 50) || judge.Rounds(w, 5) != nil {
			t.Error("of nil all are yes")
		}
	}
}

func TestP30_2Walks(t *testing.T) {
	acts := func(ops ...api.Op) (l []api.Act) {
		for _, o := range ops {
			l = append(l, ask(1, o), all)
		}
		return l
	}
	remove := func(name string) api.Op { return api.Op{Kind: api.OpDelete, Name: name} }
	many := []api.Op{add("a"), add("b"), add("c"), add("d"), add("e")}
	for i, x := range [][]api.Op{
		append(many, page("", 2), page("\x01b", 2), page("\x01d", 2), page("", 2)),
		append(many, page("", 2), remove("b"), add("ba"), add("aa"), page("\x01b", 1), page("\x01ba", 9)),
		append(many, page("", 2), page("\x01b", 2), remove("e"), add("e"), page("\x01d", 2)),
		append(many, page("", 2), page("x", 2), page("\x01b", 0), page("\x01b", 1), page("\x01c", 1)),
		append(many, page("", 9), page("", 2), page("\x01B", 2)),
	} {
		right(t, fmt.Sprint("walk ", i), played(t, setup(1, 1), acts(x...)...))
	}
	// Another client's entries come and go between the pages.
	right(t, "two clients", played(t, setup(1, 2), ask(1, add("a")), all, ask(1, add("c")), all, ask(1, page("", 1)), all, ask(2, add("b")), all, ask(1, page("\x01a", 2)), all, ask(2, remove("b")), ask(1, page("", 3)), all))
}

func TestP30_3Lives(t *testing.T) {
	// Where nothing is to be told, it is yes: of a majority without power, and of fewer rounds.
	w := played(t, setup(1, 1), ask(1, add("a")), on(api.ActOff, 0), back(0, 3), on(api.ActOff, 0))
	if !w.Fair() || !judge.Lives(w, 16) {
		t.Error("it is answered behind so many rounds")
	}
	under := played(t, setup(2, 1), ask(1, add("a")), on(api.ActOff, 0), on(api.ActOff, 1))
	for _, rounds := range []int{-1, 0, 1, 21} {
		if !judge.Lives(under, rounds) {
			t.Errorf("%d rounds", rounds)
		}
	}
	if _, is := judge.Rounds(under, 0).Session(1).Under(); !is {
		t.Error("of no rounds it is under way")
	}
	if _, is := judge.Rounds(under, 22).Session(1).Under(); is || !judge.Lives(under, 22) {
		t.Error("behind so many rounds it is answered")
	}
}

// twice fails the test unless two worlds stand the same.
func twice(t *testing.T, a, b *world.World) {
	t.Helper()
	if a.Acts() != b.Acts() || a.Waiting() != b.Waiting() || fmt.Sprint(a.Net()) != fmt.Sprint(b.Net()) || fmt.Sprint(a.History()) != fmt.Sprint(b.History()) {
		t.Errorf("%d acts, %d sent; %d acts, %d sent", a.Acts(), len(a.Net()), b.Acts(), len(b.Net()))
	}
	for i := range 7 {
		if !a.Node(i).Same(b.Node(i)) {
			t.Errorf("the node %d", i)
		}
	}
}

// rounds has a world go through rounds, act by act.
func rounds(w *world.World, many int) {
	for range many {
		for c := 1; c <= w.Setup().Clients; c++ {
			w.Do(on(api.ActRetry, c))
		}
		for i := range 2*w.Setup().F + 1 {
			if w.Node(i) != nil {
				w.Do(on(api.ActTick, i))
			}
		}
		for i := 0; i < 20 && w.Waiting() > 0; i++ {
			w.Do(all)
		}
	}
}

func TestP30_3Rounds(t *testing.T) {
	for i, w := range []*world.World{
		played(t, setup(1, 2), ask(1, add("a")), ask(2, add("b"))), played(t, setup(2, 1), ask(1, add("a")), on(api.ActOff, 0), on(api.ActOff, 3)), played(t, setup(1, 1), on(api.ActOff, 1), back(1, 4), ask(1, add("b"))),
		played(t, setup(1, 1), on(api.ActOff, 1), on(api.ActOff, 2), ask(1, add("b"))),
	} {
		kept := w.Copy()
		for _, many := range []int{-5, 0, 1, 2, 5} {
			want := w.Copy()
			rounds(want, max(many, 0))
			twice(t, judge.Rounds(w, many), want)
		}
		twice(t, w, kept)
		if t.Failed() {
			t.Fatal(i)
		}
	}
	w := played(t, setup(1, 1))
	hundred := judge.Rounds(w, 100)
	twice(t, judge.Rounds(w, 101), hundred)
	twice(t, judge.Rounds(w, 1<<40), hundred)
	if hundred.Acts() == judge.Rounds(w, 99).Acts() {
		t.Error("a hundred rounds")
	}
}

func TestP30_3MuchWaits(t *testing.T) {
	// More waits than is carried at once: a round carries as often as anything waits.
	w := played(t, setup(3, 1), ask(1, add("a")))
	for range 900 {
		w.Do(on(api.ActRetry, 1))
	}
	want := w.Copy()
	rounds(want, 1)
	got := judge.Rounds(w, 1)
	if got.Waiting() != 0 || got.Acts() != want.Acts() || len(got.Net()) != len(want.Net()) {
		t.Error(got.Waiting(), got.Acts(), want.Acts())
	}
	right(t, "much waits", w)
}

func TestP30_3FullNet(t *testing.T) {
	// Where half of what the net may have is there, nothing is promised: it may be that nothing more can be sent.
	w := played(t, setup(1, 1), ask(1, add("a")))
	for range (api.MaxNet - 1) / 3 {
		w.Do(on(api.ActRetry, 1))
	}
	if _, under := judge.Rounds(w, 16).Session(1).Under(); !under || !judge.Lives(w, 16) {
		t.Error(under)
	}
}

func TestP30_4Drops(t *testing.T) {
	w := played(t, setup(1, 1), ask(1, add("a")), all, on(api.ActOff, 2), back(2, 4), ask(1, add("b")), api.Act{Kind: api.ActCarry, N: 0})
	var messages [][]byte
	for _, s := range w.Net() {
		messages = append(messages, s.Bytes)
	}
	messages = append(messages, nil, []byte("x"), make([]byte, 100), make([]byte, api.MaxMessage+1))
	for i := range 3 {
		n := w.Node(i)
		kept := n.Copy()
		for _, b := range messages {
			if !judge.Drops(n, b) {
				t.Errorf("the node %d: %x", i, b)
			}
		}
		if !n.Same(kept) || n.Dropped() != kept.Dropped() {
			t.Error("the node itself took something")
		}
	}
	for _, n := range []*replica.Node{nil, {}} {
		if !judge.Drops(n, messages[0]) || !judge.Drops(n, nil) {
			t.Error("of nil yes")
		}
	}
}

// chance is numbers by chance.
type chance uint32

// below is one below n.
func (c *chance) below(n int) int {
	*c = *c*1664525 + 1013904223
	return int(*c>>8) % n
}

// op is an operation by chance.
func (c *chance) op(w *world.World, who int) api.Op {
	name := func() string { return string([]byte{"abcdefAB"[c.below(8)], "abc "[c.below(4)]}) }
	switch c.below(6) {
	case 0, 1:
		return add(name())
	case 2:
		return api.Op{Kind: api.OpDelete, Name: name()}
	case 3:
		return api.Op{Kind: api.OpRename, Name: name(), To: name()}
	case 4:
		return api.Op{Kind: api.OpLookup, Name: name()}
	}
	_, r, _ := w.Session(uint64(who)).Last()
	return api.Op{Kind: api.OpPage, Cursor: r.Cursor, N: 1 + c.below(3)}
}

// step does an act by chance, by which a fair world stays fair.
func (c *chance) step(w *world.World, nonce uint64) {
	f, who := w.Setup().F, c.below(2*w.Setup().F+1)
	down := 0
	for i := range 2*f + 1 {
		if n := w.Node(i); n == nil || n.Mode() == api.Recover {
			down++
		}
	}
	switch what := c.below(40); {
	case what < 4:
		client := 1 + c.below(w.Setup().Clients)
		w.Do(ask(client, c.op(w, client)))
	case what < 8:
		w.Do(on(api.ActTick, who))
	case what < 10:
		w.Do(on(api.ActRetry, 1+c.below(w.Setup().Clients)))
	case what < 11:
		w.Do(all)
	case what < 12 && w.Node(who) == nil:
		w.Do(back(who, nonce))
	case what < 12 && down < f:
		w.Do(on(api.ActOff, who))
	case what < 13:
		w.Do(api.Act{Kind: api.ActBytes, Who: who, Bytes: []byte{byte(what)}})
	default:
		if many := len(w.Net()); many > 0 {
			w.Do(api.Act{Kind: api.ActCarry, N: many - 1 - c.below(min(many, 12))})
		}
	}
}

func TestP30_5All(t *testing.T) {
	answered, pages := 0, 0
	for seed := range 80 {
		c := chance(seed)
		w := played(t, setup(1+seed%3, 1+seed%4))
		for i := range 500 {
			c.step(w, uint64(i+1))
			if i%125 == 124 {
				right(t, fmt.Sprintf("seed %d, behind %d acts", seed, i), w)
			}
		}
		for _, x := range w.History() {
			if x.Done {
				answered++
			}
			if x.Done && x.Op.Kind == api.OpPage && len(x.Op.Cursor) > 0 {
				pages++
			}
		}
	}
	if answered < 100 || pages < 5 {
		t.Error(answered, pages)
	}
}
