package session_test

import (
	"testing"

	"blazon/api"
	"blazon/message"
	"blazon/session"
)

// of is a session of a client.
func of(t *testing.T, client uint64, nodes int) *session.Session {
	t.Helper()
	s, e := session.New(client, nodes)
	if s == nil || e != api.OK {
		t.Fatal(e)
	}
	return s
}

// look is an operation that looks a name up.
func look(name string) api.Op { return api.Op{Kind: api.OpLookup, Name: name} }

// asks has a client ask, and fails the test unless its request has this number, and goes to this node.
func asks(t *testing.T, s *session.Session, o api.Op, num uint64, to int) {
	t.Helper()
	n, sent, e := s.Ask(o)
	if n != num || e != api.OK {
		t.Fatal(n, e)
	}
	goes(t, sent, api.Request{Client: s.Client(), Num: num, Op: o}, to)
}

// goes fails the test unless a request goes to just these nodes.
func goes(t *testing.T, sent []api.Sent, r api.Request, to ...int) {
	t.Helper()
	if len(sent) != len(to) {
		t.Fatalf("%d are sent", len(sent))
	}
	for i, x := range sent {
		m, e := message.Of(x.Bytes)
		if e != api.OK || !message.Same(m, api.Message{Kind: api.MsgRequest, Request: r}) || x.To != to[i] || x.Client != 0 {
			t.Errorf("to %d: %v %v", x.To, m, e)
		}
	}
}

// reply is a message to a client.
func reply(t *testing.T, view, client, num uint64, r api.Result) []byte {
	t.Helper()
	b, e := message.Bytes(api.Message{Kind: api.MsgReply, View: view, Client: client, Num: num, Result: r})
	if e != api.OK {
		t.Fatal(e)
	}
	return b
}

// named is a result with an entry of a name.
func named(name string) api.Result {
	return api.Result{Entries: []api.Entry{{Name: name, Attrs: []api.Attr{{Type: "t", Value: "v"}}}}, Cursor: []byte("\x01a")}
}

func TestP27_1New(t *testing.T) {
	for nodes := -3; nodes < 12; nodes++ {
		s, e := session.New(1<<64-1, nodes)
		if is := nodes == 3 || nodes == 5 || nodes == 7; is != (e == api.OK) || is != (s != nil) || !is && e != api.ErrArg {
			t.Errorf("%d: %v", nodes, e)
		}
	}
	s := of(t, 7, 3)
	r, under := s.Under()
	n, last, is := s.Last()
	if s.Client() != 7 || s.Num() != 0 || s.View() != 0 || s.Dropped() != 0 || under || !message.SameRequest(r, api.Request{}) || n != 0 || is || !message.SameResult(last, api.Result{}) {
		t.Error("a new one has something")
	}
}

func TestP27_1Ask(t *testing.T) {
	s := of(t, 7, 3)
	if n, sent, e := s.Ask(api.Op{Kind: 9}); n != 0 || len(sent) != 0 || e != api.ErrArg {
		t.Error(n, e)
	}
	asks(t, s, look("a"), 1, 0)
	if n, sent, e := s.Ask(look("b")); n != 0 || len(sent) != 0 || e != api.ErrState {
		t.Error(n, e)
	}
	if n, sent, e := s.Ask(api.Op{}); n != 0 || len(sent) != 0 || e != api.ErrArg {
		t.Error(n, e)
	}
	if r, is := s.Under(); !is || !message.SameRequest(r, api.Request{Client: 7, Num: 1, Op: look("a")}) || s.Num() != 1 {
		t.Error(r, is)
	}
	s.Take(reply(t, 5, 7, 1, named("a")))
	asks(t, s, look("b"), 2, 2)
	s.Take(reply(t, 1<<64-1, 7, 2, named("a")))
	asks(t, s, look("c"), 3, int(uint64(1<<64-1)%3))
}

func TestP27_1Take(t *testing.T) {
	s := of(t, 7, 3)
	take := func(b []byte, view uint64, dropped int) {
		t.Helper()
		if r, is := s.Take(b); is || !message.SameResult(r, api.Result{}) || s.View() != view || s.Dropped() != dropped {
			t.Errorf("%v %v, view %d, %d dropped", r, is, s.View(), s.Dropped())
		}
	}
	take(reply(t, 2, 7, 0, named("a")), 2, 0) // none is under way: its view counts
	asks(t, s, look("a"), 1, 2)
	take(reply(t, 4, 7, 2, named("a")), 4, 0)
	take(reply(t, 3, 7, 0, named("a")), 4, 0)
	take(reply(t, 9, 8, 1, named("a")), 4, 1)
	take([]byte("x"), 4, 2)
	take(nil, 4, 3)
	other, _ := message.Bytes(api.Message{Kind: api.MsgCommit, View: 9})
	take(other, 4, 4)
	if _, is := s.Under(); !is {
		t.Error("it is under way")
	}
	zero := of(t, 0, 3)
	if _, is := zero.Take(other); is || zero.View() != 0 || zero.Dropped() != 1 {
		t.Error(zero.View(), zero.Dropped())
	}
	if r, is := s.Take(reply(t, 3, 7, 1, named("a"))); !is || !message.SameResult(r, named("a")) || s.View() != 4 || s.Dropped() != 4 {
		t.Error(r, is)
	}
	if r, is := s.Under(); is || !message.SameRequest(r, api.Request{}) {
		t.Error(r, is)
	}
	if n, r, is := s.Last(); n != 1 || !is || !message.SameResult(r, named("a")) {
		t.Error(n, r, is)
	}
	take(reply(t, 6, 7, 1, named("b")), 6, 4) // it was answered already
	if n, r, is := s.Last(); n != 1 || !is || !message.SameResult(r, named("a")) {
		t.Error(n, r, is)
	}
	asks(t, s, look("b"), 2, 0)
	take(reply(t, 6, 7, 1, named("b")), 6, 4)
	if r, is := s.Take(reply(t, 8, 7, 2, api.Result{Code: api.ErrNone})); !is || r.Code != api.ErrNone || s.View() != 8 {
		t.Error(r, is)
	}
	if n, r, is := s.Last(); n != 2 || !is || r.Code != api.ErrNone {
		t.Error(n, r, is)
	}
}

func TestP27_1Tick(t *testing.T) {
	for _, nodes := range []int{3, 5, 7} {
		s := of(t, 7, nodes)
		goes(t, s.Tick(), api.Request{})
		asks(t, s, look("a"), 1, 0)
		for range 2 {
			goes(t, s.Tick(), api.Request{Client: 7, Num: 1, Op: look("a")}, []int{0, 1, 2, 3, 4, 5, 6}[:nodes]...)
		}
		s.Take(reply(t, 0, 7, 1, api.Result{}))
		goes(t, s.Tick(), api.Request{})
	}
}

func TestP27_2Copy(t *testing.T) {
	s := of(t, 7, 3)
	asks(t, s, look("a"), 1, 0)
	c := s.Copy()
	c.Take(reply(t, 5, 7, 1, named("a")))
	c.Take(nil)
	if _, is := s.Under(); !is || s.View() != 0 || s.Dropped() != 0 {
		t.Error("the copy goes on with it")
	}
	if _, _, is := s.Last(); is {
		t.Error("the copy goes on with it")
	}
	asks(t, c, look("b"), 2, 2)
	if s.Num() != 1 || c.Num() != 2 || c.Client() != 7 {
		t.Error(s.Num(), c.Num())
	}
}

func TestP27_2Memory(t *testing.T) {
	s := of(t, 7, 3)
	o := api.Op{Kind: api.OpAdd, Name: "a", Attrs: []api.Attr{{Type: "t", Value: "v"}}}
	want := api.Request{Client: 7, Num: 1, Op: api.Op{Kind: api.OpAdd, Name: "a", Attrs: []api.Attr{{Type: "t", Value: "v"}}}}
	s.Ask(o)
	o.Attrs[0].Value = "z"
	goes(t, s.Tick(), want, 0, 1, 2)
	r, _ := s.Under()
	r.Op.Attrs[0].Value = "z"
	goes(t, s.Tick(), want, 0, 1, 2)
	b := reply(t, 0, 7, 1, named("a"))
	x, _ := s.Take(b)
	clear(b)
	x.Entries[0].Attrs[0].Value = "z"
	_, x, _ = s.Last()
	x.Cursor[0] = 9
	if _, x, _ = s.Last(); !message.SameResult(x, named("a")) {
		t.Error(x)
	}
}

func TestP27_2NilAndZero(t *testing.T) {
	for _, s := range []*session.Session{nil, {}} {
		n, sent, e := s.Ask(api.Op{})
		r, is := s.Take(nil)
		q, under := s.Under()
		num, last, was := s.Last()
		if n != 0 || len(sent) != 0 || e != api.ErrNil || is || !message.SameResult(r, api.Result{}) || under || !message.SameRequest(q, api.Request{}) || num != 0 || was || !message.SameResult(last, api.Result{}) {
			t.Error("nothing has something")
		}
		if len(s.Tick()) != 0 || s.View() != 0 || s.Client() != 0 || s.Num() != 0 || s.Dropped() != 0 {
			t.Error("nothing has something")
		}
	}
	var none *session.Session
	if none.Copy() != nil {
		t.Error("a copy of nil")
	}
}

func TestP27_3WhatFollows(t *testing.T) {
	s := of(t, 3, 5)
	answered := map[uint64]int{}
	n, last := uint32(1), uint64(0)
	for range 2000 {
		n = n*1664525 + 1013904223
		switch n >> 8 % 4 {
		case 0:
			if num, _, e := s.Ask(look("a")); e == api.OK {
				if num != last+1 {
					t.Fatal(num, last)
				}
				last = num
			}
		case 1:
			s.Tick()
		default:
			num := uint64(n>>12) % (last + 3)
			if _, is := s.Take(reply(t, uint64(n>>20), 3, num, api.Result{})); is {
				answered[num]++
				if answered[num] != 1 || num != last {
					t.Fatal(num, last)
				}
			}
		}
	}
	if len(answered) < 5 {
		t.Error(answered)
	}
}
