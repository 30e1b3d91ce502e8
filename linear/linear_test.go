package linear_test

import (
	"fmt"
	"slices"
	"testing"

	"blazon/api"
	"blazon/ducet"
	"blazon/linear"
	"blazon/match"
	"blazon/message"
	"blazon/sortkey"
	"blazon/store"
	"blazon/world"
)

var tables = api.Tables{Folding: "0041; C; 0061;\n", Weights: "0061 ; [.1C47.0020.0002]\n"}

// empty is a directory without entries.
func empty(t *testing.T) *store.Store {
	t.Helper()
	names, e := match.New(tables)
	if e != api.OK {
		t.Fatal(e)
	}
	table, e := ducet.New(tables.Weights)
	if e != api.OK {
		t.Fatal(e)
	}
	col, e := sortkey.New(names.Data(), table, api.Options{Levels: 3})
	if e != api.OK {
		t.Fatal(e)
	}
	s, e := store.New(names, col, api.Quota{Entries: 3, Bytes: 99})
	if e != api.OK {
		t.Fatal(e)
	}
	return s
}

// The operations.

func add(name string) api.Op    { return api.Op{Kind: api.OpAdd, Name: name} }
func look(name string) api.Op   { return api.Op{Kind: api.OpLookup, Name: name} }
func remove(name string) api.Op { return api.Op{Kind: api.OpDelete, Name: name} }

// found is the result of a look at an entry.
func found(name string) api.Result { return api.Result{Entries: []api.Entry{{Name: name}}} }

// coded is a result with a code.
func coded(e api.Errno) api.Result { return api.Result{Code: e} }

// done is a call that was answered.
func done(client, num uint64, o api.Op, from, to int, r api.Result) api.Call {
	return api.Call{Client: client, Num: num, Op: o, From: from, To: to, Done: true, Result: r}
}

// open is a call that was not.
func open(client, num uint64, o api.Op, from int) api.Call {
	return api.Call{Client: client, Num: num, Op: o, From: from}
}

// orderOf are the requests of calls.
func orderOf(l ...api.Call) []api.Request {
	var out []api.Request
	for _, c := range l {
		out = append(out, api.Request{Client: c.Client, Num: c.Num, Op: c.Op})
	}
	return out
}

func TestP29_1May(t *testing.T) {
	a := done(1, 1, add("a"), 0, 1, api.Result{})
	for i, l := range [][]api.Call{
		nil, {a}, {open(1, 1, add("a"), 0)}, {done(1, 1, add("a"), 0, 0, api.Result{})}, {a, open(1, 2, add("a"), 2)}, {open(1, 2, add("a"), 2), a}, {a, open(2, 1, add("a"), 0), open(3, 1, add("a"), 0)},
		{done(1, 7, add("a"), 5, 6, api.Result{}), done(1, 3, add("b"), 7, 7, api.Result{})}, {{Client: 1, From: 5, To: 2}},
	} {
		if !linear.May(l) {
			t.Errorf("%d: %v", i, l)
		}
	}
	for i, l := range [][]api.Call{
		{done(1, 1, add("a"), -1, 1, api.Result{})}, {open(1, 1, add("a"), -1)}, {done(1, 1, add("a"), 3, 2, api.Result{})},
		{a, open(1, 1, add("b"), 2)}, {a, a}, {a, open(1, 2, add("a"), 1)}, {a, open(1, 2, add("a"), 0)}, {open(1, 1, add("a"), 0), open(1, 2, add("a"), 5)}, {open(1, 2, add("a"), 5), open(1, 1, add("a"), 0)},
		{open(1, 1, add("a"), 3), done(1, 2, add("a"), 3, 4, api.Result{})}, {a, done(1, 2, add("b"), 2, 9, api.Result{}), open(1, 3, add("b"), 9)}, {a, open(2, 1, add("a"), 0), open(2, 2, add("b"), 9)},
	} {
		if linear.May(l) {
			t.Errorf("%d: %v", i, l)
		}
		if e := linear.Check(empty(t), l, nil); e != api.ErrArg {
			t.Errorf("%d: %v", i, e)
		}
		if order, is := linear.Any(empty(t), l); len(order) != 0 || is {
			t.Errorf("%d: %v %v", i, order, is)
		}
	}
}

func TestP29_1Check(t *testing.T) {
	a := done(1, 1, add("a"), 0, 1, api.Result{})
	b := done(2, 1, add("A"), 0, 5, coded(api.ErrExists))
	c := done(1, 2, look("a"), 2, 3, found("a"))
	d := open(3, 1, remove("a"), 1)
	l := []api.Call{c, a, d, b}
	for i, x := range []struct {
		order []api.Request
		want  api.Errno
	}{
		{orderOf(a, b, c), api.OK}, {orderOf(a, c, b), api.OK}, {orderOf(a, c, b, d), api.OK}, {orderOf(a, b, c, d), api.OK},
		{orderOf(b, a, c), api.ErrState}, {orderOf(a, d, b, c), api.ErrState}, {orderOf(a, c, d, b), api.ErrState},
		{orderOf(c, a, b), api.ErrOld}, {orderOf(b, c, a), api.ErrOld}, {orderOf(d, c, b, a), api.ErrOld},
		{orderOf(a, b), api.ErrNone}, {nil, api.ErrNone}, {orderOf(a, b, c, open(4, 1, add("x"), 0)), api.ErrNone}, {orderOf(a, b, c, open(3, 2, remove("a"), 0)), api.ErrNone}, {orderOf(a, b, c, open(3, 1, remove("b"), 0)), api.ErrNone}, {orderOf(a, b, open(1, 2, look("A"), 0)), api.ErrNone},
		{orderOf(a, b, c, a), api.ErrExists}, {orderOf(a, d, d, b, c), api.ErrExists}, {orderOf(c, c, a, b), api.ErrExists},
		{orderOf(a, a), api.ErrNone}, {orderOf(a, a, b, c, open(9, 9, add("x"), 0)), api.ErrNone},
	} {
		s := empty(t)
		if e := linear.Check(s, l, x.order); e != x.want || s.Len() != 0 {
			t.Errorf("%d: %v, not %v", i, e, x.want)
		}
	}
	if e := linear.Check(empty(t), nil, nil); e != api.OK {
		t.Error(e)
	}
}

func TestP29_1CheckTime(t *testing.T) {
	// Only one that was answered ahead of when the other one was asked must stand ahead.
	for _, x := range []struct {
		to, from int
		want     api.Errno
	}{{4, 5, api.ErrOld}, {5, 5, api.OK}, {6, 5, api.OK}} {
		a, b := done(1, 1, add("a"), 0, x.to, api.Result{}), done(2, 1, add("b"), x.from, 9, api.Result{})
		if e := linear.Check(empty(t), []api.Call{a, b}, orderOf(b, a)); e != x.want {
			t.Errorf("%d %d: %v", x.to, x.from, e)
		}
		// so must it ahead of one that was not answered, if that one stands there
		c := open(2, 1, add("b"), x.from)
		if e := linear.Check(empty(t), []api.Call{a, c}, orderOf(c, a)); e != x.want {
			t.Errorf("%d %d: %v", x.to, x.from, e)
		}
		if e := linear.Check(empty(t), []api.Call{a, c}, orderOf(a)); e != api.OK {
			t.Errorf("%d %d: %v", x.to, x.from, e)
		}
	}
	// not just the next one
	a, b, c := done(1, 1, add("a"), 0, 1, api.Result{}), done(2, 1, add("b"), 0, 9, api.Result{}), done(3, 1, add("c"), 2, 3, api.Result{})
	if e := linear.Check(empty(t), []api.Call{a, b, c}, orderOf(c, b, a)); e != api.ErrOld {
		t.Error(e)
	}
}

func TestP29_1CheckErrors(t *testing.T) {
	bad := []api.Call{{From: -1}}
	full := empty(t)
	full.Do(add("x"))
	for i, x := range []struct {
		s    *store.Store
		l    []api.Call
		want api.Errno
	}{{nil, bad, api.ErrNil}, {&store.Store{}, bad, api.ErrNil}, {nil, nil, api.ErrNil}, {full, nil, api.ErrArg}, {empty(t), bad, api.ErrArg}, {full, bad, api.ErrArg}} {
		if e := linear.Check(x.s, x.l, orderOf(open(1, 1, add("a"), 0))); e != x.want {
			t.Errorf("%d: %v", i, e)
		}
		if order, is := linear.Any(x.s, x.l); len(order) != 0 || is {
			t.Errorf("%d: %v", i, order)
		}
	}
	// What is told of a call that is not Done is not looked at.
	c := open(1, 1, look("a"), 0)
	c.Result = found("x")
	if e := linear.Check(empty(t), []api.Call{c}, orderOf(c)); e != api.OK {
		t.Error(e)
	}
}

func TestP29_1World(t *testing.T) {
	setup := api.Setup{F: 1, Clients: 2, Every: 3, Quota: api.Quota{Entries: 1, Bytes: 9}, Tables: tables, Options: api.Options{Levels: 3}}
	ask := func(who int, o api.Op) api.Act { return api.Act{Kind: api.ActAsk, Who: who, Op: o} }
	all := api.Act{Kind: api.ActCarryAll}
	w, _, e := world.Run(setup, ask(1, add("a")), all, ask(1, look("A")), ask(2, add("b")), all, ask(2, remove("a")))
	if e != api.OK || len(w.History()) != 4 || len(w.Order()) != 3 {
		t.Fatal(e)
	}
	if e := linear.World(w); e != api.OK {
		t.Error(e)
	}
	b, _ := message.Bytes(api.Message{Kind: api.MsgRequest, Request: api.Request{Client: 9, Num: 1, Op: add("c")}})
	w.Do(api.Act{Kind: api.ActBytes, Who: 0, Bytes: b})
	w.Do(all)
	if e := linear.World(w); e != api.ErrNone {
		t.Error(e)
	}
	for _, w := range []*world.World{nil, {}} {
		if e := linear.World(w); e != api.ErrNil {
			t.Error(e)
		}
	}
}

func TestP29_2Any(t *testing.T) {
	a := done(1, 1, add("a"), 0, 1, api.Result{})
	for i, x := range []struct {
		l    []api.Call
		want bool
	}{
		{nil, true},
		{[]api.Call{a, done(1, 2, look("a"), 2, 3, coded(api.ErrNone))}, false},
		{[]api.Call{a, done(2, 1, look("a"), 2, 3, coded(api.ErrNone))}, false},
		{[]api.Call{a, done(2, 1, look("a"), 1, 3, coded(api.ErrNone))}, true},
		{[]api.Call{a, done(2, 1, look("a"), 2, 3, found("a"))}, true},
		{[]api.Call{done(2, 1, look("a"), 2, 3, found("a"))}, false},
		{[]api.Call{open(1, 1, add("a"), 0), done(2, 1, look("a"), 2, 3, found("a"))}, true},
		{[]api.Call{open(1, 1, add("a"), 5), done(2, 1, look("a"), 2, 3, found("a"))}, false},
		{[]api.Call{open(1, 1, add("a"), 0), done(2, 1, look("a"), 2, 3, coded(api.ErrNone)), done(2, 2, look("a"), 4, 5, found("a")), done(2, 3, look("a"), 6, 7, coded(api.ErrNone))}, false},
		{[]api.Call{open(1, 1, add("a"), 0)}, true},
	} {
		s := empty(t)
		order, is := linear.Any(s, x.l)
		if is != x.want || s.Len() != 0 || !is && len(order) != 0 {
			t.Errorf("%d: %v %v", i, order, is)
		}
		if e := linear.Check(s, x.l, order); is && e != api.OK {
			t.Errorf("%d: %v: %v", i, order, e)
		}
	}
	var l []api.Call
	for i := range 8 {
		if order, is := linear.Any(empty(t), l); !is || len(order) != i {
			t.Errorf("%d calls: %v", i, is)
		}
		l = append(l, done(uint64(i), 1, look("a"), 0, 9, coded(api.ErrNone)))
	}
	if order, is := linear.Any(empty(t), l); is || len(order) != 0 {
		t.Error("of more than seven none is looked for")
	}
}

func TestP29_2Results(t *testing.T) {
	s := empty(t)
	s.Do(add("x"))
	got := linear.Results(s, orderOf(open(1, 1, add("a"), 0), open(1, 2, add("A"), 0), open(1, 3, look("x"), 0), open(1, 4, add("b"), 0), open(1, 5, add("c"), 0)))
	want := []api.Result{{}, coded(api.ErrExists), found("x"), {}, coded(api.ErrFull)}
	if !slices.EqualFunc(got, want, message.SameResult) || s.Len() != 1 {
		t.Error(got)
	}
	if got := linear.Results(s, nil); len(got) != 0 {
		t.Error(got)
	}
}

func TestP29_2Memory(t *testing.T) {
	o := add("a")
	o.Attrs = []api.Attr{{Type: "t", Value: "v"}}
	l := []api.Call{done(1, 1, o, 0, 1, api.Result{})}
	order, is := linear.Any(empty(t), l)
	if !is || len(order) != 1 {
		t.Fatal(order)
	}
	order[0].Op.Attrs[0].Value = "z"
	if l[0].Op.Attrs[0].Value != "v" {
		t.Error("an answer shares memory with what was handed in")
	}
}

// orders goes over all orders of some of the calls.
func orders(l []api.Call, take func(order []api.Call)) {
	used := make([]bool, len(l))
	var order []api.Call
	var more func()
	more = func() {
		take(order)
		for i, c := range l {
			if used[i] {
				continue
			}
			used[i] = true
			order = append(order, c)
			more()
			order = order[:len(order)-1]
			used[i] = false
		}
	}
	more()
}

func TestP29_3AnyAndCheck(t *testing.T) {
	n := uint32(5)
	next := func(m int) int {
		n = n*1664525 + 1013904223
		return int(n>>8) % m
	}
	explained := 0
	for range 400 {
		var l []api.Call
		for client := range uint64(2) {
			at := next(3)
			for num := range uint64(2) {
				o := []api.Op{add("a"), look("A"), remove("a")}[next(3)]
				r := []api.Result{{}, found("a"), coded(api.ErrNone), coded(api.ErrExists)}[next(4)]
				c := done(client, num, o, at, at+next(3), r)
				if num == 1 && next(4) == 0 {
					c = open(client, num, o, at)
				}
				l = append(l, c)
				at = c.To + 1 + next(2)
			}
		}
		if !linear.May(l) {
			t.Fatal(l)
		}
		is := false
		s := empty(t)
		orders(l, func(order []api.Call) { is = is || linear.Check(s, l, orderOf(order...)) == api.OK })
		order, any := linear.Any(s, l)
		if any != is {
			t.Errorf("%v: %v %v", fmt.Sprint(l), order, any)
		}
		if any {
			explained++
			if e := linear.Check(s, l, order); e != api.OK {
				t.Errorf("%v: %v: %v", l, order, e)
			}
		}
	}
	if explained == 0 || explained == 400 {
		t.Error(explained)
	}
}
