package replica_test

import (
	"fmt"
	"slices"
	"strings"
	"testing"

	"blazon/api"
	"blazon/match"
	"blazon/message"
	"blazon/replica"
	"blazon/snap"
	"blazon/sortkey"
)

func TestP26_1New(t *testing.T) {
	names, col := parts(t)
	good := api.Config{F: 1, Node: 2, Every: 4096, Quota: quota}
	n, e := replica.New(good, names, col)
	if e != api.OK || n.Config() != good || n.Mode() != api.Normal || n.Dropped() != 0 || n.Primary() || n.Store().Len() != 0 || n.Clients().Len() != 0 || len(n.Did()) != 0 || !slices.Equal(n.Seen(), three(0, 0, 0)) || n.Store().Quota() != quota {
		t.Error(e)
	}
	stands(t, n, "normal v0 n0 0 [] c0")
	if !of(t, 1, 0, 1).Primary() {
		t.Error("the node 0 is the primary of view 0")
	}
	for i, c := range []api.Config{
		{F: 0, Every: 1}, {F: 4, Every: 1}, {F: -1, Every: 1}, {F: 1, Node: -1, Every: 1}, {F: 1, Node: 3, Every: 1}, {F: 3, Node: 7, Every: 1}, {F: 1}, {F: 1, Every: 4097}, {F: 1, Every: -1},
		{F: 1, Every: 1, Quota: api.Quota{Entries: 1001}}, {F: 1, Every: 1, Quota: api.Quota{Bytes: -1}},
	} {
		n, e := replica.New(c, names, col)
		b, sent, e2 := replica.Back(c, names, col, 5)
		if n != nil || b != nil || len(sent) != 0 || e != api.ErrArg || e2 != api.ErrArg {
			t.Errorf("%d: %v %v", i, e, e2)
		}
	}
	for _, c := range []api.Config{{F: 1, Every: 1}, {F: 3, Node: 6, Every: 4096, Quota: api.Quota{Entries: 1000, Bytes: 1 << 20}}} {
		if n, e := replica.New(c, names, col); n == nil || e != api.OK {
			t.Error(e)
		}
	}
	for _, x := range []struct {
		n *match.Names
		c *sortkey.Collator
	}{{nil, col}, {names, nil}, {&match.Names{}, col}, {names, &sortkey.Collator{}}} {
		n, e := replica.New(api.Config{}, x.n, x.c)
		b, sent, e2 := replica.Back(api.Config{}, x.n, x.c, 0)
		if n != nil || b != nil || len(sent) != 0 || e != api.ErrNil || e2 != api.ErrNil {
			t.Error(e, e2)
		}
	}
}

func TestP26_1Back(t *testing.T) {
	names, col := parts(t)
	c := api.Config{F: 1, Node: 1, Every: 5, Quota: quota}
	n, sent, e := replica.Back(c, names, col, 9)
	if got := said(t, sent); !slices.Equal(got, []string{"0: recovery f1 9", "2: recovery f1 9"}) || e != api.OK {
		t.Error(got, e)
	}
	stands(t, n, "recover v0 n0 0 [] c0")
	if !slices.Equal(n.Seen(), three(0, 9, 0)) || n.Config() != c || len(n.Did()) != 0 || n.Primary() {
		t.Error(n.Seen())
	}
	if n, sent, e := replica.Back(c, names, col, 0); n != nil || len(sent) != 0 || e != api.ErrArg {
		t.Error(e)
	}
	if back(t, 1, 0, 1).Primary() {
		t.Error("one that comes back is no primary")
	}
}

func TestP26_2Request(t *testing.T) {
	n := of(t, 1, 0, 100)
	takes(t, n, request(ask(1, 5)), "1: prepare v0 [1.5] at1 c0", "2: prepare v0 [1.5] at1 c0")
	drops(t, n, request(ask(1, 5))) // it stands in the log
	drops(t, n, request(ask(1, 4)))
	takes(t, n, request(ask(2, 4)), "1: prepare v0 [2.4] at2 c0", "2: prepare v0 [2.4] at2 c0")
	takes(t, n, ok(0, 1, 2), "client 1: reply v0 1.5 0")
	stands(t, n, "normal v0 n0 0 [1.5 2.4] c1")
	if did := n.Did(); len(did) != 1 || did[0].At != 1 || !message.SameRequest(did[0].Request, ask(1, 5)) || did[0].Result.Code != api.OK {
		t.Error(did)
	}
	takes(t, n, request(ask(1, 5)), "client 1: reply v0 1.5 0")
	if len(n.Did()) != 0 {
		t.Error(n.Did())
	}
	drops(t, n, request(ask(1, 4)))
	takes(t, n, request(ask(1, 6)), "1: prepare v0 [1.6] at3 c1", "2: prepare v0 [1.6] at3 c1")
	takes(t, n, request(ask(1, 7)), "1: prepare v0 [1.7] at4 c1", "2: prepare v0 [1.7] at4 c1")
	again := ask(1, 8)
	again.Op.Name = "1.5"
	takes(t, n, request(again), "1: prepare v0 [1.8] at5 c1", "2: prepare v0 [1.8] at5 c1")
	takes(t, n, ok(0, 5, 1), "client 2: reply v0 2.4 0", "client 1: reply v0 1.6 0", "client 1: reply v0 1.7 0", "client 1: reply v0 1.8 9")
	if did := n.Did(); len(did) != 4 || did[3].At != 5 || did[3].Result.Code != api.ErrExists {
		t.Error(did)
	}
	if n.Store().Len() != 4 || n.Clients().Len() != 2 {
		t.Error(n.Store().Len())
	}
	if num, is := n.Clients().Latest(1); num != 8 || !is {
		t.Error(num)
	}
	drops(t, of(t, 1, 1, 100), request(ask(1, 1)))
	drops(t, back(t, 1, 0, 1), request(ask(1, 1)))
}

func TestP26_2PrepareOK(t *testing.T) {
	n := of(t, 2, 0, 100)
	for i := range uint64(4) {
		n.Take(raw(t, request(ask(1, i+1))))
	}
	takes(t, n, ok(0, 2, 3))
	takes(t, n, ok(0, 1, 3)) // the most that was told
	takes(t, n, ok(0, 9, 1), "client 1: reply v0 1.1 0", "client 1: reply v0 1.2 0")
	takes(t, n, ok(0, 3, 4), "client 1: reply v0 1.3 0")
	takes(t, n, ok(0, 3, 4))
	n.Take(raw(t, request(ask(1, 5))))
	takes(t, n, ok(0, 5, 2), "client 1: reply v0 1.4 0") // the one that told 9 had 4 then
	stands(t, n, "normal v0 n0 0 [1.1 1.2 1.3 1.4 1.5] c4")
	drops(t, n, ok(1, 5, 1))
	drops(t, n, ok(0, 5, 0))
	drops(t, n, ok(0, 5, 5))
	drops(t, of(t, 2, 1, 100), ok(0, 0, 2))
}

func TestP26_2Full(t *testing.T) {
	n := of(t, 1, 0, 4096)
	follower := of(t, 1, 1, 4096)
	for i := range uint64(4096) {
		n.Take(raw(t, request(ask(i, 1))))
		follower.Take(raw(t, prepare(0, ask(i, 1), i+1, 0)))
	}
	if n.Log().Len() != 4096 || n.Dropped() != 0 || follower.Log().Len() != 4096 || follower.Dropped() != 0 {
		t.Fatal(n.Log().Len(), n.Dropped())
	}
	drops(t, n, request(ask(5000, 1)))
	follower.Tick() // nothing was heard since
	drops(t, follower, prepare(0, ask(1, 1), 4097, 5))
	stopped := follower.Copy()
	ticks(t, stopped, "0: start v1 f1 [0 0 0]", "2: start v1 f1 [0 0 0]")
	takes(t, follower, prepare(0, ask(1, 1), 4098, 0), "0: get v0 at4096 f1")
	// The table has room for 16 clients: another one is told so, and nothing is done.
	n.Take(raw(t, ok(0, 4096, 1)))
	if n.Commit() != 4096 || n.Clients().Len() != 16 || n.Store().Len() != 16 || n.Log().Len() != 0 || n.Log().Base() != 4096 {
		t.Error(n.Commit(), n.Clients().Len(), n.Store().Len(), n.Log().Len())
	}
	for i, did := range n.Did() {
		if want := (did.Result.Code == api.ErrFull); want != (i >= 16) {
			t.Fatal(i, did.Result.Code)
		}
	}
	takes(t, n, request(ask(3, 1)), "client 3: reply v0 3.1 0")
	takes(t, n, request(ask(99, 1)), "1: prepare v0 [99.1] at4097 c4096", "2: prepare v0 [99.1] at4097 c4096")
	takes(t, n, ok(0, 4097, 1), "client 99: reply v0 99.1 10")
}

func TestP26_2Prepare(t *testing.T) {
	n := of(t, 1, 1, 100)
	takes(t, n, prepare(0, ask(1, 1), 1, 0), "0: ok v0 at1 f1")
	takes(t, n, prepare(0, ask(1, 9), 1, 0), "0: ok v0 at1 f1") // it has that place
	takes(t, n, prepare(0, ask(1, 3), 3, 9), "0: get v0 at1 f1")
	stands(t, n, "normal v0 n0 0 [1.1] c1") // done, and no more, though it has not what stands ahead
	takes(t, n, prepare(0, ask(1, 2), 2, 2), "0: ok v0 at2 f1")
	stands(t, n, "normal v0 n0 0 [1.1 1.2] c2")
	if did := n.Did(); len(did) != 1 || did[0].At != 2 {
		t.Error(did)
	}
	takes(t, n, prepare(0, ask(1, 1), 0, 0), "0: ok v0 at2 f1")
	drops(t, of(t, 1, 0, 100), prepare(0, ask(1, 1), 1, 0)) // the primary
	drops(t, back(t, 1, 1, 1), prepare(0, ask(1, 1), 1, 0))
	drops(t, back(t, 1, 1, 1), prepare(5, ask(1, 1), 1, 0))
	// A later view.
	takes(t, n, prepare(5, ask(1, 3), 3, 3), "2: get v5 at2 f1")
	stands(t, n, "fetch v5 n0 0 [1.1 1.2] c2")
	drops(t, n, prepare(5, ask(1, 3), 3, 3))
	drops(t, n, prepare(4, ask(1, 3), 3, 3))
	drops(t, n, prepare(7, ask(1, 3), 3, 3)) // of which it is the primary itself
	takes(t, n, prepare(8, ask(1, 3), 3, 3), "2: get v8 at2 f1")
	stands(t, n, "fetch v8 n0 0 [1.1 1.2] c2")
}

func TestP26_2Commit(t *testing.T) {
	n := of(t, 1, 1, 100)
	n.Take(raw(t, prepare(0, ask(1, 1), 1, 0)))
	n.Take(raw(t, prepare(0, ask(1, 2), 2, 0)))
	takes(t, n, commit(0, 1))
	stands(t, n, "normal v0 n0 0 [1.1 1.2] c1")
	takes(t, n, commit(0, 0))
	takes(t, n.Copy(), commit(0, 2)) // it has all
	takes(t, n, commit(0, 4), "0: get v0 at2 f1")
	stands(t, n, "normal v0 n0 0 [1.1 1.2] c2")
	drops(t, of(t, 1, 0, 100), commit(0, 0))
	drops(t, n, commit(1, 0)) // of which it is the primary itself
	takes(t, n, commit(2, 5), "2: get v2 at2 f1")
	stands(t, n, "fetch v2 n0 0 [1.1 1.2] c2")
	drops(t, n, commit(2, 5))
	drops(t, n, commit(1, 5))
	takes(t, of(t, 1, 0, 100), commit(1, 0), "1: get v1 at0 f0")
	drops(t, back(t, 1, 1, 1), commit(2, 0))
	drops(t, back(t, 1, 1, 1), commit(0, 0))
	changing := of(t, 1, 1, 100)
	changing.Take(raw(t, start(3, 0, 0, 0, 0)))
	drops(t, changing, commit(3, 0))
	takes(t, changing, commit(5, 0), "2: get v5 at0 f1")
}

func TestP26_2Start(t *testing.T) {
	n := of(t, 2, 3, 100)
	zero := make([]uint64, 5)
	const all = "v1 f3 [0 0 0 0 0]"
	takes(t, n, start(1, 0, zero...), "0: start "+all, "1: start "+all, "2: start "+all, "4: start "+all)
	stands(t, n, "change v1 n0 0 [] c0")
	takes(t, n, start(1, 0, zero...)) // the same one tells it twice
	takes(t, n, start(1, 4, zero...), "1: do v1 n0 0 snap [] c0 f3 [0 0 0 0 0]")
	takes(t, n, start(1, 2, zero...)) // the first time alone
	for _, m := range []api.Message{start(0, 1, zero...), start(1, 3, zero...), start(1, 5, zero...), start(1, 1, 0, 0, 0), start(1, 1), start(2, 1, 0, 0, 0, 0, 0, 0)} {
		drops(t, n, m)
	}
	drops(t, of(t, 2, 3, 100), start(0, 1, zero...))
	drops(t, back(t, 2, 3, 1), start(1, 1, 0, 0, 0, 1, 0))
	// A later view begins anew.
	const next = "v2 f3 [0 0 0 0 0]"
	takes(t, n, start(2, 1, zero...), "0: start "+next, "1: start "+next, "2: start "+next, "4: start "+next)
	takes(t, n, start(2, 0, zero...), "2: do v2 n0 0 snap [] c0 f3 [0 0 0 0 0]")
	drops(t, n, start(1, 1, zero...))
}

func TestP26_2Learn(t *testing.T) {
	n := of(t, 2, 3, 100)
	n.Take(raw(t, start(1, 0, 0, 7, 0, 0, 2)))
	if !slices.Equal(n.Seen(), []uint64{0, 7, 0, 0, 2}) {
		t.Error(n.Seen())
	}
	drops(t, n, start(1, 1, 9, 6, 9, 9, 9)) // of an elder age
	drops(t, n, start(9, 4, 0, 0, 0, 0, 1))
	// What the node 0 told at the age 0 counts no more, once its age 3 is seen.
	takes(t, n, start(1, 4, 3, 0, 0, 0, 2))
	if !slices.Equal(n.Seen(), []uint64{3, 7, 0, 0, 2}) {
		t.Error(n.Seen())
	}
	takes(t, n, start(1, 0, 3, 0, 0, 0, 0), "1: do v1 n0 0 snap [] c0 f3 [3 7 0 0 2]")
	drops(t, n, start(1, 0, 2, 0, 0, 0, 0))
	// It changes to a later view with what it has just learned.
	const all = "v5 f3 [4 8 1 0 2]"
	takes(t, n, start(5, 2, 4, 8, 1, 0, 0), "0: start "+all, "1: start "+all, "2: start "+all, "4: start "+all)
}

func TestP26_2Do(t *testing.T) {
	zero := three(0, 0, 0)
	n := of(t, 1, 1, 100)
	takes(t, n, do(t, 1, 0, 0, 1, 0, zero, asks(1, 2)...),
		"0: start v1 f1 [0 0 0]", "2: start v1 f1 [0 0 0]", "0: view v1 0 snap [1.1 1.2] c0 [0 0 0]", "2: view v1 0 snap [1.1 1.2] c0 [0 0 0]", "client 1: reply v1 1.1 0")
	stands(t, n, "normal v1 n1 0 [1.1 1.2] c1")
	if !n.Primary() || len(n.Did()) != 1 {
		t.Error(n.Did())
	}
	drops(t, n, do(t, 1, 0, 0, 1, 2, zero, asks(1, 2)...)) // Normal already
	// Nobody has anything in the new view.
	takes(t, n, ok(1, 2, 2), "client 1: reply v1 1.2 0")
	for i, m := range []api.Message{do(t, 2, 1, 0, 2, 0, zero, asks(1, 2)...), do(t, 0, 0, 0, 0, 0, zero), do(t, 4, 1, 0, 0, 1, zero), do(t, 4, 1, 0, 0, 3, zero), do(t, 4, 1, 0, 0, 0, nil), do(t, 4, 1, 0, 0, 0, []uint64{1, 2})} {
		if drops(t, n, m); t.Failed() {
			t.Fatal(i)
		}
	}
	drops(t, back(t, 1, 1, 4), do(t, 1, 0, 0, 0, 0, three(0, 4, 0)))
	n.Take(raw(t, start(4, 0, 5, 0, 0)))
	drops(t, n, do(t, 4, 1, 0, 0, 0, three(4, 0, 0))) // of an elder age
}

func TestP26_2DoBest(t *testing.T) {
	zero := make([]uint64, 5)
	a, b, c := asks(1, 2, 3), asks(1, 2, 4), asks(1, 2, 5)
	for i, x := range []struct {
		own  []api.Request
		l    [2]api.Message // of the nodes 4 and 0, as they come
		want string
	}{
		// the greatest normal view, though another log is longer
		{nil, [2]api.Message{do(t, 6, 3, 0, 0, 4, zero, a[:1]...), do(t, 6, 2, 0, 0, 0, zero, b...)}, "[1.1] c0"},
		{a, [2]api.Message{do(t, 6, 0, 0, 0, 4, zero), do(t, 6, 1, 0, 0, 0, zero, b[:1]...)}, "[1.1] c0"},
		// of these the greatest end
		{nil, [2]api.Message{do(t, 6, 3, 0, 0, 4, zero, a[:1]...), do(t, 6, 3, 0, 0, 0, zero, b...)}, "[1.1 1.2 1.4] c0"},
		{nil, [2]api.Message{do(t, 6, 3, 0, 0, 4, zero, a...), do(t, 6, 3, 0, 0, 0, zero, b[:1]...)}, "[1.1 1.2 1.3] c0"},
		// of these its own, else the least From
		{a, [2]api.Message{do(t, 6, 0, 0, 0, 4, zero, b...), do(t, 6, 0, 0, 0, 0, zero, c...)}, "[1.1 1.2 1.3] c0"},
		{nil, [2]api.Message{do(t, 6, 3, 0, 0, 4, zero, b...), do(t, 6, 3, 0, 0, 0, zero, c...)}, "[1.1 1.2 1.5] c0"},
		// up to the greatest commit, whoever told it
		{nil, [2]api.Message{do(t, 6, 3, 0, 1, 4, zero, b...), do(t, 6, 2, 0, 2, 0, zero, a[:2]...)}, "[1.1 1.2 1.4] c2"},
		{nil, [2]api.Message{do(t, 6, 3, 0, 9, 4, zero, b...), do(t, 6, 2, 0, 0, 0, zero)}, "[1.1 1.2 1.4] c3"},
	} {
		n := of(t, 2, 1, 100)
		for at, r := range x.own {
			n.Take(raw(t, prepare(0, r, uint64(at+1), 0)))
		}
		n.Take(raw(t, x.l[0]))
		if n.Mode() != api.Change {
			t.Fatal(n.Mode())
		}
		n.Take(raw(t, x.l[0])) // the same one tells it twice
		if n.Mode() != api.Change {
			t.Fatal(n.Mode())
		}
		n.Take(raw(t, x.l[1]))
		t.Log(i)
		stands(t, n, "normal v6 n6 0 "+x.want)
	}
}

func TestP26_2DoAgain(t *testing.T) {
	// One that leads again knows nothing of what others had when it led before.
	n := of(t, 1, 0, 100)
	n.Take(raw(t, request(ask(1, 1))))
	n.Take(raw(t, ok(0, 1, 1)))
	n.Take(raw(t, do(t, 3, 0, 0, 1, 1, three(0, 0, 0), asks(1)...)))
	stands(t, n, "normal v3 n3 0 [1.1] c1")
	ticks(t, n, "1: prepare v3 [1.1] at1 c1", "2: prepare v3 [1.1] at1 c1")
}

func TestP26_2DoLate(t *testing.T) {
	// What a node told at an elder age counts no more, once a greater one is seen.
	n := of(t, 2, 1, 100)
	n.Take(raw(t, do(t, 1, 0, 0, 0, 0, make([]uint64, 5), asks(1)...)))
	n.Take(raw(t, do(t, 1, 0, 0, 0, 3, []uint64{8, 0, 0, 0, 0})))
	stands(t, n, "change v1 n0 0 [] c0")
	n.Take(raw(t, do(t, 1, 0, 0, 0, 0, []uint64{8, 0, 0, 0, 0}, asks(2)...)))
	stands(t, n, "normal v1 n1 0 [1.2] c0")
	// The best one of them can't be laid: nothing more happens.
	n = of(t, 1, 1, 100)
	bad := do(t, 1, 5, 0, 0, 0, three(0, 0, 0))
	bad.Snap = []byte("x")
	takes(t, n, bad, "0: start v1 f1 [0 0 0]", "2: start v1 f1 [0 0 0]")
	stands(t, n, "change v1 n0 0 [] c0")
}

func TestP26_2DoItself(t *testing.T) {
	// The primary is told by F others that they change: it says what it has to itself, and needs F others for more.
	n := of(t, 1, 1, 100)
	takes(t, n, start(1, 0, 0, 0, 0), "0: start v1 f1 [0 0 0]", "2: start v1 f1 [0 0 0]")
	stands(t, n, "change v1 n0 0 [] c0")
	takes(t, n, do(t, 1, 0, 0, 0, 2, three(0, 0, 0)), "0: view v1 0 snap [] c0 [0 0 0]", "2: view v1 0 snap [] c0 [0 0 0]")
	stands(t, n, "normal v1 n1 0 [] c0")
}

func TestP26_2View(t *testing.T) {
	n := of(t, 1, 2, 100)
	takes(t, n, begun(t, 1, 0, 1, three(1, 2, 0), asks(1, 2)...), "1: ok v1 at2 f2")
	stands(t, n, "normal v1 n1 0 [1.1 1.2] c1")
	if !slices.Equal(n.Seen(), three(1, 2, 0)) || len(n.Did()) != 1 {
		t.Error(n.Seen(), n.Did())
	}
	drops(t, n, begun(t, 1, 0, 1, three(1, 2, 0), asks(1, 2)...))
	drops(t, n, begun(t, 2, 0, 1, three(1, 2, 0), asks(1, 2)...)) // its own view
	drops(t, n, begun(t, 0, 0, 1, three(1, 2, 0), asks(1, 2)...))
	drops(t, n, begun(t, 3, 0, 1, []uint64{1, 2}, asks(1, 2)...))
	drops(t, back(t, 1, 2, 1), begun(t, 3, 0, 0, three(0, 0, 0)))
	takes(t, n, begun(t, 3, 0, 2, three(0, 0, 0), asks(1, 2)...)) // all is done: nothing is to be told
	stands(t, n, "normal v3 n3 0 [1.1 1.2] c2")
	if !slices.Equal(n.Seen(), three(1, 2, 0)) {
		t.Error(n.Seen())
	}
	// of the same view, where it changes, or fetches
	n.Take(raw(t, start(4, 0, 1, 0, 0)))
	stands(t, n, "change v4 n3 0 [1.1 1.2] c2")
	takes(t, n, begun(t, 4, 0, 2, three(0, 0, 0), asks(1, 2, 3)...), "1: ok v4 at3 f2")
	stands(t, n, "normal v4 n4 0 [1.1 1.2 1.3] c2")
	n.Take(raw(t, commit(6, 9)))
	stands(t, n, "fetch v6 n4 0 [1.1 1.2 1.3] c2")
	takes(t, n, begun(t, 6, 2, 2, three(0, 0, 0), asks(4)...), "0: ok v6 at3 f2")
	stands(t, n, "normal v6 n6 2 [1.4] c2")
	// with a base above its commit
	takes(t, n, begun(t, 7, 5, 6, three(0, 0, 0), asks(6, 7)...), "1: ok v7 at7 f2")
	stands(t, n, "normal v7 n7 5 [1.6 1.7] c6")
	if n.Store().Len() != 6 || len(n.Did()) != 1 || n.Did()[0].At != 6 {
		t.Error(n.Store().Len(), n.Did())
	}
	if num, _ := n.Clients().Latest(1); num != 6 {
		t.Error(num)
	}
	ticks(t, n) // it has heard something
	fresh := of(t, 1, 2, 100)
	fresh.Take(raw(t, begun(t, 1, 0, 0, three(0, 0, 0))))
	ticks(t, fresh)
	stands(t, fresh, "normal v1 n1 0 [] c0")
}

// stateOf is what a node tells one that asks for what it has dropped.
func stateOf(t *testing.T, n *replica.Node, view uint64) api.Message {
	t.Helper()
	m, e := message.Of(n.Take(raw(t, get(view, 1<<60, 0)))[0].Bytes)
	if e != api.OK {
		t.Fatal(e)
	}
	return m
}

func TestP26_2Lay(t *testing.T) {
	// five is a node that has done five requests, and dropped none.
	five := func() *replica.Node {
		n := of(t, 1, 2, 100)
		for i := range uint64(5) {
			n.Take(raw(t, prepare(0, ask(1, i+1), i+1, i+1)))
		}
		stands(t, n, "normal v0 n0 0 [1.1 1.2 1.3 1.4 1.5] c5")
		return n
	}
	for i, x := range []struct {
		base    uint64
		snap    uint64 // of how many requests
		entries int    // then in the directory
		kept    bool   // the snapshot is the one that it had
	}{
		{7, 7, 7, false}, // above its commit: all is the snapshot's
		{2, 2, 5, false}, // not above its commit, and not its own base: the snapshot alone
		{5, 3, 5, false}, // even where the snapshot tells something else
		{0, 3, 5, true},  // its own base
	} {
		n := five()
		m := begun(t, 1, x.base, 0, three(0, 0, 0))
		for num := x.base + 1; num <= 8; num++ {
			m.Log = append(m.Log, ask(1, num))
		}
		m.Snap = filled(t, x.snap)
		n.Take(raw(t, m))
		want := filled(t, x.snap)
		if x.kept {
			want = empty(t)
		}
		if got := stateOf(t, n, 1); got.Base != x.base || !slices.Equal(got.Snap, want) || n.Store().Len() != x.entries || n.Commit() != max(x.base, 5) {
			t.Errorf("%d: base %d, %d entries, commit %d, %d bytes", i, got.Base, n.Store().Len(), n.Commit(), len(got.Snap))
		}
		if num, _ := n.Clients().Latest(1); num != uint64(x.entries) {
			t.Errorf("%d: %d", i, num)
		}
	}
}

func TestP26_2CanNotBeLaid(t *testing.T) {
	n := of(t, 1, 2, 100)
	good := begun(t, 1, 0, 0, three(5, 5, 5))
	names, col := parts(t)
	other, _ := replica.New(api.Config{F: 1, Every: 1, Quota: api.Quota{Entries: 99, Bytes: 1 << 20}}, names, col)
	otherQuota, _ := snap.Bytes(other.Store(), other.Clients().Bytes())
	noTable, _ := snap.Bytes(n.Store(), []byte{0, 0, 0, 1})
	great := api.Request{Op: api.Op{Kind: api.OpModify}}
	for i := range 50 {
		great.Op.Attrs = append(great.Op.Attrs, api.Attr{Type: "t", Value: fmt.Sprint(i) + strings.Repeat("v", 990)})
	}
	for i, spoil := range []func(m *api.Message){
		func(m *api.Message) { m.Snap = nil },
		func(m *api.Message) { m.Snap = []byte("x") },
		func(m *api.Message) { m.Snap = otherQuota },
		func(m *api.Message) { m.Snap = noTable },
		func(m *api.Message) { m.Snap = append(slices.Clone(m.Snap), 0) },
		func(m *api.Message) { m.Base = 1<<62 + 1 },
		func(m *api.Message) { m.Log = slices.Repeat([]api.Request{great}, 45) },
	} {
		bad := good
		spoil(&bad)
		if drops(t, n, bad); t.Failed() {
			t.Fatal(i)
		}
	}
	takes(t, n, good)
}

func TestP26_2Recovery(t *testing.T) {
	n := of(t, 1, 0, 100)
	n.Take(raw(t, request(ask(1, 1))))
	takes(t, n, recovery(2, 7), "2: recovered v0 7 f0 [0 0 7] whole 0 snap [1.1] c0")
	if !slices.Equal(n.Seen(), three(0, 0, 7)) {
		t.Error(n.Seen())
	}
	drops(t, n, recovery(2, 6))
	drops(t, n, recovery(0, 6))
	drops(t, n, recovery(3, 6))
	takes(t, n, recovery(2, 7), "2: recovered v0 7 f0 [0 0 7] whole 0 snap [1.1] c0")
	follower := of(t, 1, 1, 100)
	takes(t, follower, recovery(2, 7), "2: recovered v0 7 f1 [0 0 7]")
	follower.Take(raw(t, start(2, 0, 0, 0, 0)))
	drops(t, follower, recovery(2, 8))
	drops(t, back(t, 1, 1, 1), recovery(2, 8))
	fetching := of(t, 1, 1, 100)
	fetching.Take(raw(t, commit(2, 0)))
	drops(t, fetching, recovery(2, 8))
}

func TestP26_2Recovered(t *testing.T) {
	n := back(t, 1, 2, 7)
	takes(t, n, recovered(3, 7, 1, 0, 4, 7))
	if !slices.Equal(n.Seen(), three(0, 4, 7)) {
		t.Error(n.Seen())
	}
	for _, m := range []api.Message{recovered(3, 6, 0, 0, 4, 7), recovered(3, 7, 2, 0, 4, 7), recovered(3, 7, 0, 4, 7), recovered(3, 7, 1, 0, 3, 7)} {
		drops(t, n, m)
	}
	takes(t, n, whole(t, 3, 7, 0, three(0, 4, 7), 2, 3, asks(3, 4)...))
	stands(t, n, "normal v3 n3 2 [1.3 1.4] c3")
	if n.Store().Len() != 3 || len(n.Did()) != 1 {
		t.Error(n.Store().Len(), n.Did())
	}
	drops(t, n, whole(t, 3, 7, 0, three(0, 4, 7), 2, 3, asks(3, 4)...))
	drops(t, of(t, 1, 2, 100), recovered(3, 0, 1, 0, 0, 0))
	ticks(t, n) // it has heard something
	stands(t, n, "normal v3 n3 2 [1.3 1.4] c3")
}

func TestP26_2RecoveredView(t *testing.T) {
	// The greatest view that was told has another primary than the one that told all.
	n := back(t, 1, 2, 7)
	takes(t, n, whole(t, 3, 7, 0, three(0, 0, 7), 0, 0, asks(1)...))
	takes(t, n, recovered(4, 7, 1, 0, 0, 7))
	stands(t, n, "recover v0 n0 0 [] c0")
	takes(t, n, recovered(3, 7, 1, 0, 0, 7)) // an elder view than the one that it told
	stands(t, n, "recover v0 n0 0 [] c0")
	takes(t, n, whole(t, 4, 7, 1, three(0, 0, 7), 0, 1, asks(1, 2)...))
	stands(t, n, "normal v4 n4 0 [1.1 1.2] c1")
	// Of the same view the later one counts.
	n = back(t, 1, 2, 7)
	n.Take(raw(t, whole(t, 3, 7, 0, three(0, 0, 7), 0, 0, asks(1)...)))
	n.Take(raw(t, whole(t, 3, 7, 0, three(0, 0, 7), 0, 0, asks(1, 2)...)))
	n.Take(raw(t, recovered(3, 7, 1, 0, 0, 7)))
	stands(t, n, "normal v3 n3 0 [1.1 1.2] c0")
	// All may be told of view 0.
	n = back(t, 1, 2, 7)
	n.Take(raw(t, whole(t, 0, 7, 0, three(0, 0, 7), 0, 1, asks(1)...)))
	n.Take(raw(t, recovered(0, 7, 1, 0, 0, 7)))
	stands(t, n, "normal v0 n0 0 [1.1] c1")
	// The whole one must be of the greatest view, though it is of its primary.
	n = back(t, 1, 2, 7)
	n.Take(raw(t, whole(t, 1, 7, 1, three(0, 0, 7), 0, 0, asks(1)...)))
	n.Take(raw(t, recovered(4, 7, 0, 0, 0, 7)))
	stands(t, n, "recover v0 n0 0 [] c0")
	// The whole one must be of that view's primary.
	n = back(t, 1, 2, 7)
	n.Take(raw(t, whole(t, 3, 7, 1, three(0, 0, 7), 0, 0, asks(1)...)))
	n.Take(raw(t, recovered(3, 7, 0, 0, 0, 7)))
	stands(t, n, "recover v0 n0 0 [] c0")
	// What was told at an elder age counts no more.
	n = back(t, 1, 2, 7)
	n.Take(raw(t, whole(t, 3, 7, 0, three(0, 0, 7), 0, 0, asks(1)...)))
	n.Take(raw(t, recovered(3, 7, 1, 5, 0, 7)))
	stands(t, n, "recover v0 n0 0 [] c0")
	n.Take(raw(t, whole(t, 3, 7, 0, three(5, 0, 7), 0, 0, asks(2)...)))
	stands(t, n, "normal v3 n3 0 [1.2] c0")
	// What can't be laid among several: nothing more happens.
	n = back(t, 1, 2, 7)
	bad := whole(t, 3, 7, 0, three(0, 0, 7), 0, 0)
	bad.Snap = []byte("x")
	takes(t, n, bad)
	takes(t, n, recovered(3, 7, 1, 0, 0, 7))
	stands(t, n, "recover v0 n0 0 [] c0")
	// F + 1 must tell.
	n = back(t, 2, 2, 7)
	n.Take(raw(t, whole(t, 5, 7, 0, []uint64{0, 0, 7, 0, 0}, 0, 0)))
	n.Take(raw(t, recovered(5, 7, 1, 0, 0, 7, 0, 0)))
	stands(t, n, "recover v0 n0 0 [] c0")
	n.Take(raw(t, recovered(4, 7, 3, 0, 0, 7, 0, 0)))
	stands(t, n, "normal v5 n5 0 [] c0")
}

// filledPrimary is a primary that has done three requests, dropped the first two, and has a fourth one.
func filledPrimary(t *testing.T) *replica.Node {
	t.Helper()
	n := of(t, 1, 0, 2)
	for i := range uint64(4) {
		n.Take(raw(t, request(ask(1, i+1))))
	}
	takes(t, n, ok(0, 3, 1), "client 1: reply v0 1.1 0", "client 1: reply v0 1.2 0", "client 1: reply v0 1.3 0")
	stands(t, n, "normal v0 n0 2 [1.3 1.4] c3")
	return n
}

func TestP26_2Get(t *testing.T) {
	n := filledPrimary(t)
	takes(t, n, get(0, 4, 1), "1: state v0 4 - [] c3")
	takes(t, n, get(0, 3, 2), "2: state v0 3 - [1.4] c3")
	takes(t, n, get(0, 2, 2), "2: state v0 2 - [1.3 1.4] c3")
	takes(t, n, get(0, 1, 1), "1: state v0 2 snap [1.3 1.4] c3")
	takes(t, n, get(0, 5, 1), "1: state v0 2 snap [1.3 1.4] c3")
	for _, m := range []api.Message{get(1, 4, 1), get(0, 4, 0), get(0, 4, 3)} {
		drops(t, n, m)
	}
	follower := of(t, 1, 1, 100)
	takes(t, follower, get(0, 0, 2), "2: state v0 0 - [] c0")
	follower.Take(raw(t, start(2, 0, 0, 0, 0)))
	drops(t, follower, get(2, 0, 2))
	drops(t, back(t, 1, 1, 1), get(0, 0, 2))
}

func TestP26_2StateNormal(t *testing.T) {
	n := of(t, 1, 1, 100)
	n.Take(raw(t, prepare(0, ask(1, 1), 1, 1)))
	takes(t, n, state(0, 1, nil, 2, asks(2, 3)...), "0: ok v0 at3 f1")
	stands(t, n, "normal v0 n0 0 [1.1 1.2 1.3] c2")
	takes(t, n, state(0, 1, nil, 0, asks(7, 8, 4)...), "0: ok v0 at4 f1") // what stands behind the end alone
	stands(t, n, "normal v0 n0 0 [1.1 1.2 1.3 1.4] c2")
	takes(t, n, state(0, 0, nil, 3), "0: ok v0 at4 f1")
	stands(t, n, "normal v0 n0 0 [1.1 1.2 1.3 1.4] c3")
	for i, m := range []api.Message{
		state(0, 5, nil, 9, asks(6)...), state(1, 4, nil, 4), state(0, 3, filled(t, 3), 9, asks(4, 5)...), state(0, 2, filled(t, 2), 9, asks(3, 4, 5)...), state(0, 4, []byte("x"), 9),
	} {
		if drops(t, n, m); t.Failed() {
			t.Fatal(i)
		}
	}
	n.Take(raw(t, prepare(0, ask(1, 5), 5, 0)))
	drops(t, n, state(0, 4, filled(t, 4), 4)) // it ends ahead of its own
	takes(t, n, state(0, 4, filled(t, 4), 4, asks(9)...), "0: ok v0 at5 f1")
	stands(t, n, "normal v0 n0 4 [1.9] c4")
	drops(t, of(t, 1, 0, 100), state(0, 0, nil, 0)) // the primary
	drops(t, back(t, 1, 1, 1), state(0, 0, nil, 0))
}

func TestP26_2StateFetch(t *testing.T) {
	fetching := func() *replica.Node {
		n := of(t, 1, 1, 100)
		for i := range uint64(4) {
			n.Take(raw(t, prepare(0, ask(1, i+1), i+1, 2)))
		}
		n.Take(raw(t, commit(2, 9)))
		stands(t, n, "fetch v2 n0 0 [1.1 1.2 1.3 1.4] c2")
		return n
	}
	n := fetching()
	takes(t, n, state(2, 2, nil, 3, asks(7, 8)...), "2: ok v2 at4 f1")
	stands(t, n, "normal v2 n2 0 [1.1 1.2 1.7 1.8] c3")
	n = fetching()
	takes(t, n, state(2, 4, nil, 3), "2: ok v2 at4 f1")
	stands(t, n, "normal v2 n2 0 [1.1 1.2 1.3 1.4] c3")
	n = fetching()
	takes(t, n, state(2, 3, filled(t, 3), 4, asks(4)...), "2: ok v2 at4 f1")
	stands(t, n, "normal v2 n2 3 [1.4] c4")
	n = fetching()
	takes(t, n, state(2, 3, filled(t, 3), 3), "2: ok v2 at3 f1") // it may end ahead of its own
	stands(t, n, "normal v2 n2 3 [] c3")
	n = fetching()
	for i, m := range []api.Message{
		state(2, 1, nil, 3, asks(2)...), state(2, 5, nil, 3), state(2, 2, filled(t, 2), 3, asks(3, 4)...), state(0, 2, nil, 3), state(5, 2, nil, 3), state(2, 3, []byte("x"), 3),
		state(2, 4, nil, 3, slices.Repeat(asks(1), 4093)...),
	} {
		if drops(t, n, m); t.Failed() {
			t.Fatal(i)
		}
	}
	n = of(t, 1, 1, 100)
	n.Take(raw(t, commit(2, 0)))
	n.Take(raw(t, state(2, 0, nil, 2, asks(1, 2)...)))
	stands(t, n, "normal v2 n2 0 [1.1 1.2] c2")
	ticks(t, n) // it has heard something
	stands(t, n, "normal v2 n2 0 [1.1 1.2] c2")
	if len(n.Did()) != 0 {
		t.Error(n.Did())
	}
}

func TestP26_2Every(t *testing.T) {
	n := of(t, 1, 0, 3)
	for i := range uint64(7) {
		n.Take(raw(t, request(ask(1, i+1))))
	}
	takes(t, n, ok(0, 2, 1), "client 1: reply v0 1.1 0", "client 1: reply v0 1.2 0")
	stands(t, n, "normal v0 n0 0 [1.1 1.2 1.3 1.4 1.5 1.6 1.7] c2")
	n.Take(raw(t, ok(0, 3, 1)))
	stands(t, n, "normal v0 n0 3 [1.4 1.5 1.6 1.7] c3")
	n.Take(raw(t, ok(0, 7, 1)))
	stands(t, n, "normal v0 n0 6 [1.7] c7")
	m, _ := message.Of(n.Take(raw(t, get(0, 0, 1)))[0].Bytes)
	if !slices.Equal(m.Snap, filled(t, 6)) || m.Base != 6 {
		t.Error("the snapshot is not that of the base")
	}
	one := of(t, 1, 0, 1)
	one.Take(raw(t, request(ask(1, 1))))
	one.Take(raw(t, ok(0, 1, 1)))
	stands(t, one, "normal v0 n0 1 [] c1")
}

func TestP26_2GreatLog(t *testing.T) {
	great := func(num uint64) api.Request {
		r := api.Request{Client: 1, Num: num, Op: api.Op{Kind: api.OpModify, Name: "a"}}
		for i := range 50 {
			r.Op.Attrs = append(r.Op.Attrs, api.Attr{Type: "t", Value: fmt.Sprint(i) + strings.Repeat("v", 990)})
		}
		return r
	}
	// Just as many bytes are not too many.
	exact := of(t, 1, 0, 4096)
	for exact.Log().Size() < 1<<20 {
		r := api.Request{Client: 1, Num: uint64(exact.Log().Len() + 1), Op: api.Op{Kind: api.OpLookup}}
		b, _ := message.RequestBytes(r)
		rest := 1<<20 - exact.Log().Size() - len(b) // of which the name has some, and another request may have what is left
		if rest > 1000 {
			rest = min(1000, rest-len(b))
		}
		r.Op.Name = strings.Repeat("n", rest)
		exact.Take(raw(t, request(r)))
	}
	if exact.Take(raw(t, ok(0, 1, 1))); exact.Log().Size() != 1<<20 || exact.Log().Base() != 0 || exact.Commit() != 1 {
		t.Error(exact.Log().Size(), exact.Log().Base(), exact.Commit())
	}
	n := of(t, 1, 0, 4096)
	for n.Log().Size() <= 1<<20 {
		n.Take(raw(t, request(great(uint64(n.Log().Len()+1)))))
	}
	many := uint64(n.Log().Len())
	n.Take(raw(t, ok(0, 1, 1)))
	if n.Log().Base() != 1 || n.Commit() != 1 {
		t.Error(n.Log().Base())
	}
	n.Take(raw(t, ok(0, many, 1)))
	if n.Log().Base() != 1 || n.Commit() != many {
		t.Error(n.Log().Base(), n.Commit())
	}
}

func TestP26_2TimerPrimary(t *testing.T) {
	n := of(t, 1, 0, 100)
	ticks(t, n, "1: commit v0 c0", "2: commit v0 c0")
	n = filledPrimary(t)
	ticks(t, n, "1: prepare v0 [1.4] at4 c3", "2: prepare v0 [1.3] at3 c3")
	n.Take(raw(t, ok(0, 4, 2)))
	ticks(t, n, "1: commit v0 c4", "2: commit v0 c4")
	stands(t, n, "normal v0 n0 4 [] c4")
	ticks(t, n, "1: commit v0 c4", "2: commit v0 c4")
}

func TestP26_2TimerFollower(t *testing.T) {
	n := of(t, 1, 2, 100)
	n.Take(raw(t, prepare(0, ask(1, 1), 1, 0)))
	ticks(t, n) // it heard something
	stands(t, n, "normal v0 n0 0 [1.1] c0")
	n.Take(raw(t, commit(0, 0)))
	ticks(t, n)
	ticks(t, n, "0: start v1 f2 [0 0 0]", "1: start v1 f2 [0 0 0]")
	stands(t, n, "change v1 n0 0 [1.1] c0")
	ticks(t, n, "0: start v1 f2 [0 0 0]", "1: start v1 f2 [0 0 0]") // it heard that itself
	ticks(t, n, "0: start v2 f2 [0 0 0]", "1: start v2 f2 [0 0 0]")
	n.Take(raw(t, start(4, 0, 0, 0, 0)))
	stands(t, n, "change v4 n0 0 [1.1] c0")
	ticks(t, n, "0: start v4 f2 [0 0 0]", "1: start v4 f2 [0 0 0]", "1: do v4 n0 0 snap [1.1] c0 f2 [0 0 0]")
	n.Take(raw(t, start(4, 1, 0, 0, 0))) // which is not said to be heard
	ticks(t, n, "0: start v5 f2 [0 0 0]", "1: start v5 f2 [0 0 0]")
	if len(n.Did()) != 0 {
		t.Error(n.Did())
	}
	// A new one has heard nothing yet.
	ticks(t, of(t, 1, 1, 100), "0: start v1 f1 [0 0 0]", "2: start v1 f1 [0 0 0]")
}

func TestP26_2TimerOthers(t *testing.T) {
	n := of(t, 1, 1, 100)
	n.Take(raw(t, prepare(0, ask(1, 1), 1, 1)))
	n.Take(raw(t, commit(2, 5)))
	for range 3 {
		ticks(t, n, "0: get v2 at1 f1", "2: get v2 at1 f1")
	}
	n = back(t, 1, 1, 5)
	for range 3 {
		ticks(t, n, "0: recovery f1 5", "2: recovery f1 5")
	}
}

func TestP26_2OldRequests(t *testing.T) {
	// What is not new by the table is not done again, though it stands in the log.
	n := of(t, 1, 1, 100)
	for i, r := range []api.Request{ask(1, 5), ask(1, 5), ask(1, 4), ask(1, 6)} {
		n.Take(raw(t, prepare(0, r, uint64(i+1), 4)))
		did := n.Did()
		if len(did) != 1 || did[0].At != uint64(i+1) || did[0].Result.Code != api.OK || len(did[0].Result.Entries) != 0 {
			t.Errorf("%d: %v", i, did)
		}
	}
	if n.Store().Len() != 2 || n.Commit() != 4 {
		t.Error(n.Store().Len())
	}
}

func TestP26_3NilAndZero(t *testing.T) {
	for _, n := range []*replica.Node{nil, {}} {
		if n.Mode() != 0 || n.View() != 0 || n.Normal() != 0 || n.Commit() != 0 || n.Dropped() != 0 || n.Primary() || n.Log() != nil || n.Store() != nil || n.Clients() != nil || len(n.Did()) != 0 || len(n.Seen()) != 0 || n.Config() != (api.Config{}) {
			t.Error("nothing has something")
		}
		if len(n.Take(raw(t, commit(0, 0)))) != 0 || len(n.Take(nil)) != 0 || len(n.Tick()) != 0 || n.Dropped() != 0 {
			t.Error("nothing sends")
		}
		if !n.Same(nil) || !n.Same(&replica.Node{}) || n.Same(of(t, 1, 0, 1)) || of(t, 1, 0, 1).Same(n) {
			t.Error("same")
		}
	}
	var none *replica.Node
	if none.Copy() != nil {
		t.Error("a copy of nil")
	}
}

func TestP26_3CopySame(t *testing.T) {
	n := filledPrimary(t)
	c := n.Copy()
	if !n.Same(c) || !c.Same(n) || c.Dropped() != n.Dropped() || len(c.Did()) != len(n.Did()) {
		t.Error("a copy is not the same")
	}
	// Each of these changes something that the other one has not.
	for i, m := range []api.Message{ok(0, 4, 2), request(ask(2, 1)), recovery(1, 5), start(1, 1, 0, 0, 0), ok(0, 3, 2), commit(1, 0)} {
		c = n.Copy()
		if c.Take(raw(t, m)); c.Same(n) || n.Same(c) || c.Dropped() != n.Dropped() {
			t.Errorf("%d: %s changes nothing", i, text(m))
		}
	}
	stands(t, n, "normal v0 n0 2 [1.3 1.4] c3")
	c = n.Copy()
	dropsBytes(t, c, []byte("x"), "x")
	if !c.Same(n) || c.Dropped() != n.Dropped()+1 {
		t.Error("the count is not held against each other")
	}
	a, b := of(t, 1, 1, 100), of(t, 1, 1, 100)
	if !a.Same(b) || a.Same(of(t, 1, 2, 100)) || a.Same(of(t, 1, 1, 99)) || a.Same(of(t, 2, 1, 100)) || a.Same(back(t, 1, 1, 3)) || back(t, 1, 1, 3).Same(back(t, 1, 1, 4)) {
		t.Error("same")
	}
	for _, m := range []api.Message{start(5, 0, 0, 0, 0), start(5, 2, 0, 0, 0)} {
		if a.Take(raw(t, m)); a.Same(b) {
			t.Error("one of them was told more")
		}
	}
	for _, m := range []api.Message{start(5, 2, 0, 0, 0), start(5, 0, 0, 0, 0)} {
		b.Take(raw(t, m))
	}
	if !a.Same(b) {
		t.Error("both were told the same")
	}
	x, y := of(t, 2, 1, 100), of(t, 2, 1, 100)
	x.Take(raw(t, do(t, 1, 0, 0, 0, 0, make([]uint64, 5), asks(1)...)))
	y.Take(raw(t, do(t, 1, 0, 0, 0, 0, make([]uint64, 5), asks(2)...)))
	if x.Same(y) {
		t.Error("both were told something else")
	}
	a.Tick()
	if a.Same(b) {
		t.Error("one of them has not heard since its timer")
	}
}

func TestP26_3Memory(t *testing.T) {
	n := filledPrimary(t)
	n.Seen()[0] = 99
	if n.Seen()[0] != 0 {
		t.Error(n.Seen())
	}
	r := ask(1, 5)
	r.Op.Attrs = []api.Attr{{Type: "t", Value: "v"}}
	b := raw(t, request(r))
	n.Take(b)
	clear(b)
	n.Take(raw(t, ok(0, 5, 2)))
	did := n.Did()
	if len(did) != 2 || !message.SameRequest(did[1].Request, r) {
		t.Error(did)
	}
	did[1].Request.Op.Attrs[0].Value = "z"
	if !message.SameRequest(n.Did()[1].Request, r) {
		t.Error("an answer shares memory with the node")
	}
}

func TestP26_4Dropped(t *testing.T) {
	normal, primary, changing, fetching, coming := of(t, 1, 1, 100), filledPrimary(t), of(t, 1, 1, 100), of(t, 1, 1, 100), back(t, 1, 1, 5)
	changing.Take(raw(t, start(2, 0, 0, 0, 0)))
	fetching.Take(raw(t, commit(2, 0)))
	reply := api.Message{Kind: api.MsgReply, View: 0, Client: 1, Num: 1}
	for _, n := range []*replica.Node{normal, primary, changing, fetching, coming} {
		for _, b := range [][]byte{nil, {}, {0}, []byte("nonsense"), make([]byte, api.MaxMessage+1), append(raw(t, commit(n.View(), 0)), 0)} {
			dropsBytes(t, n, b, fmt.Sprintf("%.20q", b))
		}
		drops(t, n, reply)
		for _, m := range []api.Message{ok(9, 1, 0), ok(n.View(), 1, n.Config().Node), get(9, 1, 0), state(9, 0, nil, 0)} {
			drops(t, n, m)
		}
	}
	for _, n := range []*replica.Node{normal, changing, fetching, coming} {
		drops(t, n, request(ask(9, 9)))
		drops(t, n, ok(n.View(), 1, 0))
	}
	for _, n := range []*replica.Node{changing, fetching, coming} {
		for _, m := range []api.Message{prepare(n.View(), ask(1, 1), 1, 0), commit(n.View(), 0), get(n.View(), 0, 0), recovery(0, 5)} {
			drops(t, n, m)
		}
	}
	for _, n := range []*replica.Node{normal, primary, changing, fetching} {
		drops(t, n, recovered(n.View(), 0, 2, 0, 0, 0))
	}
	drops(t, changing, state(2, 0, nil, 0))
	drops(t, fetching, start(2, 0, 0, 0, 0))
}

func TestP26_4GreatNumbers(t *testing.T) {
	const most = 1<<64 - 1
	messages := func(view uint64) []api.Message {
		m := begun(t, view, 0, most, three(most, most, most))
		m.Base = most
		d := do(t, view, most, 0, most, 0, three(0, most, 0), asks(1)...)
		d.Base = most
		return []api.Message{
			request(ask(most, most)), prepare(view, ask(1, 1), most, most), ok(view, most, 0), ok(view, most, 2), commit(view, most), start(view, 0, most, 0, 0), d, m, recovery(2, most), recovered(view, 5, 0, 0, 0, most), get(view, most, 0), state(view, most, nil, most), state(view, most, empty(t), most, asks(1)...),
		}
	}
	for _, n := range []*replica.Node{of(t, 1, 0, 1), of(t, 1, 1, 1), back(t, 1, 1, 5), filledPrimary(t)} {
		for _, view := range []uint64{0, most, most - 1, most - 2} {
			for _, m := range messages(view) {
				n.Take(raw(t, m))
				n.Tick()
			}
		}
		if !n.Same(n.Copy()) {
			t.Error("it is not the same as itself")
		}
	}
}

// run is some nodes, and what was sent.
type run struct {
	t      *testing.T
	nodes  []*replica.Node // nil: without power
	net    []api.Sent
	places map[uint64]api.Did
	next   uint32
	nonce  uint64
}

// chance is a number below n.
func (r *run) chance(n int) int {
	r.next = r.next*1664525 + 1013904223
	return int(r.next>>8) % n
}

// did notes what a node did and sends, and fails the test if another one did something else at that place.
func (r *run) did(node int, sent []api.Sent) {
	r.net = append(r.net, sent...)
	for _, d := range r.nodes[node].Did() {
		if old, is := r.places[d.At]; is && (!message.SameRequest(old.Request, d.Request) || !message.SameResult(old.Result, d.Result)) {
			r.t.Fatalf("at %d: %v and %v", d.At, old, d)
		}
		r.places[d.At] = d
	}
}

// down is how many nodes are without power, or coming back.
func (r *run) down() int {
	n := 0
	for _, x := range r.nodes {
		if x == nil || x.Mode() == api.Recover {
			n++
		}
	}
	return n
}

// step does something by chance.
func (r *run) step(f int) {
	i := r.chance(len(r.nodes))
	n := r.nodes[i]
	before := n.Commit()
	switch what := r.chance(100); {
	case n == nil:
		r.nonce++
		c := api.Config{F: f, Node: i, Every: 3, Quota: quota}
		names, col := parts(r.t)
		back, sent, _ := replica.Back(c, names, col, r.nonce)
		r.nodes[i] = back
		r.net = append(r.net, sent...)
		return
	case what < 2 && r.down() < f && n.Mode() != api.Recover:
		r.nodes[i] = nil
		return
	case what < 12:
		r.did(i, n.Tick())
	case what < 25:
		client := uint64(1 + r.chance(3))
		num, _ := n.Clients().Latest(client)
		r.did(i, n.Take(raw(r.t, request(ask(client, num+1)))))
	case len(r.net) > 0:
		// mostly something new, now and then something of long ago; some never comes
		at := max(0, len(r.net)-1-r.chance(12))
		if r.chance(10) == 0 {
			at = r.chance(len(r.net))
		}
		s := r.net[at]
		if s.To < 0 || r.nodes[s.To] == nil {
			return
		}
		i, n = s.To, r.nodes[s.To]
		before = n.Commit()
		r.did(i, n.Take(s.Bytes))
	}
	if n.Commit() < before {
		r.t.Fatalf("the commit of %d falls from %d to %d", i, before, n.Commit())
	}
}

func TestP26_4Runs(t *testing.T) {
	most := 0
	for seed := range uint32(12) {
		f := 1 + int(seed)%2
		r := &run{t: t, places: map[uint64]api.Did{}, next: seed}
		for i := range 2*f + 1 {
			r.nodes = append(r.nodes, of(t, f, i, 3))
		}
		for range 2500 {
			r.step(f)
		}
		most = max(most, len(r.places))
	}
	if most < 10 {
		t.Errorf("at most %d places were done", most)
	}
}
