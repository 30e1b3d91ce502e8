package replica_test

import (
	"fmt"
	"slices"
	"strings"
	"testing"

	"blazon/api"
	"blazon/ducet"
	"blazon/match"
	"blazon/message"
	"blazon/replica"
	"blazon/sortkey"
)

var quota = api.Quota{Entries: 100, Bytes: 1 << 20}

// parts are names and a collator of small tables.
func parts(t *testing.T) (*match.Names, *sortkey.Collator) {
	t.Helper()
	names, e := match.New(api.Tables{Folding: "0041; C; 0061;\n"})
	if e != api.OK {
		t.Fatal(e)
	}
	table, e := ducet.New("0061 ; [.1C47.0020.0002]\n")
	if e != api.OK {
		t.Fatal(e)
	}
	col, e := sortkey.New(names.Data(), table, api.Options{Levels: 3})
	if e != api.OK {
		t.Fatal(e)
	}
	return names, col
}

// of is a new node of 2F + 1.
func of(t *testing.T, f, node, every int) *replica.Node {
	t.Helper()
	names, col := parts(t)
	n, e := replica.New(api.Config{F: f, Node: node, Every: every, Quota: quota}, names, col)
	if n == nil || e != api.OK {
		t.Fatal(e)
	}
	return n
}

// back is a node that comes back.
func back(t *testing.T, f, node int, nonce uint64) *replica.Node {
	t.Helper()
	names, col := parts(t)
	n, _, e := replica.Back(api.Config{F: f, Node: node, Every: 100, Quota: quota}, names, col, nonce)
	if n == nil || e != api.OK {
		t.Fatal(e)
	}
	return n
}

// ask is a client's request, that adds an entry.
func ask(client, num uint64) api.Request {
	return api.Request{Client: client, Num: num, Op: api.Op{Kind: api.OpAdd, Name: fmt.Sprintf("%d.%d", client, num)}}
}

// asks are the first client's requests of these numbers.
func asks(nums ...uint64) []api.Request {
	var l []api.Request
	for _, n := range nums {
		l = append(l, ask(1, n))
	}
	return l
}

// logText is requests as a text.
func logText(l []api.Request) string {
	var s []string
	for _, r := range l {
		s = append(s, fmt.Sprintf("%d.%d", r.Client, r.Num))
	}
	return "[" + strings.Join(s, " ") + "]"
}

// text is a message as a text: its kind, and what this names.
func text(m api.Message) string {
	snap := "-"
	if len(m.Snap) > 0 {
		snap = "snap"
	}
	state := fmt.Sprintf("%d %s %s c%d", m.Base, snap, logText(m.Log), m.Commit)
	switch m.Kind {
	case api.MsgReply:
		return fmt.Sprintf("reply v%d %d.%d %d", m.View, m.Client, m.Num, m.Result.Code)
	case api.MsgPrepare:
		return fmt.Sprintf("prepare v%d %s at%d c%d", m.View, logText([]api.Request{m.Request}), m.At, m.Commit)
	case api.MsgPrepareOK:
		return fmt.Sprintf("ok v%d at%d f%d", m.View, m.At, m.From)
	case api.MsgCommit:
		return fmt.Sprintf("commit v%d c%d", m.View, m.Commit)
	case api.MsgStart:
		return fmt.Sprintf("start v%d f%d %v", m.View, m.From, m.Seen)
	case api.MsgDo:
		return fmt.Sprintf("do v%d n%d %s f%d %v", m.View, m.Normal, state, m.From, m.Seen)
	case api.MsgView:
		return fmt.Sprintf("view v%d %s %v", m.View, state, m.Seen)
	case api.MsgRecovery:
		return fmt.Sprintf("recovery f%d %d", m.From, m.Nonce)
	case api.MsgRecovered:
		if !m.Whole {
			return fmt.Sprintf("recovered v%d %d f%d %v", m.View, m.Nonce, m.From, m.Seen)
		}
		return fmt.Sprintf("recovered v%d %d f%d %v whole %s", m.View, m.Nonce, m.From, m.Seen, state)
	case api.MsgGet:
		return fmt.Sprintf("get v%d at%d f%d", m.View, m.At, m.From)
	case api.MsgState:
		return fmt.Sprintf("state v%d %s", m.View, state)
	}
	return fmt.Sprint("kind ", m.Kind)
}

// said is what was sent as texts: to whom, and what.
func said(t *testing.T, l []api.Sent) []string {
	t.Helper()
	var out []string
	for _, s := range l {
		m, e := message.Of(s.Bytes)
		if e != api.OK {
			t.Fatal(message.Check(s.Bytes))
		}
		to := fmt.Sprint(s.To)
		if s.To < 0 {
			to = fmt.Sprint("client ", s.Client)
		}
		out = append(out, to+": "+text(m))
	}
	return out
}

// raw is a message's bytes.
func raw(t *testing.T, m api.Message) []byte {
	t.Helper()
	b, e := message.Bytes(m)
	if e != api.OK {
		t.Fatalf("%+v: %v", m, e)
	}
	return b
}

// takes has a node take a message, and fails the test unless it sends just this.
func takes(t *testing.T, n *replica.Node, m api.Message, want ...string) {
	t.Helper()
	dropped := n.Dropped()
	got := said(t, n.Take(raw(t, m)))
	if !slices.Equal(got, want) {
		t.Errorf("of %s it sends\n%s\nnot\n%s", text(m), strings.Join(got, "\n"), strings.Join(want, "\n"))
	}
	if n.Dropped() != dropped {
		t.Errorf("%s is dropped", text(m))
	}
}

// drops fails the test unless a node drops a message, and nothing else changes.
func drops(t *testing.T, n *replica.Node, m api.Message) {
	t.Helper()
	dropsBytes(t, n, raw(t, m), text(m))
}

// dropsBytes fails the test unless a node drops bytes, and nothing else changes.
func dropsBytes(t *testing.T, n *replica.Node, b []byte, what string) {
	t.Helper()
	kept, dropped := n.Copy(), n.Dropped()
	if got := n.Take(b); len(got) != 0 || n.Dropped() != dropped+1 || !n.Same(kept) || len(n.Did()) != 0 {
		t.Errorf("%s is not dropped: %d, %v", what, n.Dropped()-dropped, said(t, got))
	}
}

// ticks has a node's timer go, and fails the test unless it sends just this.
func ticks(t *testing.T, n *replica.Node, want ...string) {
	t.Helper()
	if got := said(t, n.Tick()); !slices.Equal(got, want) {
		t.Errorf("its timer sends\n%s\nnot\n%s", strings.Join(got, "\n"), strings.Join(want, "\n"))
	}
}

// stands fails the test unless a node stands so: status, view, normal view, base, log, commit.
func stands(t *testing.T, n *replica.Node, want string) {
	t.Helper()
	l, _ := n.Log().From(n.Log().Base())
	got := fmt.Sprintf("%s v%d n%d %d %s c%d", [...]string{"none", "normal", "change", "recover", "fetch"}[n.Mode()], n.View(), n.Normal(), n.Log().Base(), logText(l), n.Commit())
	if got != want {
		t.Errorf("it stands\n%s\nnot\n%s", got, want)
	}
}

// The messages, by what they name.

func request(r api.Request) api.Message { return api.Message{Kind: api.MsgRequest, Request: r} }

func prepare(view uint64, r api.Request, at, commit uint64) api.Message {
	return api.Message{Kind: api.MsgPrepare, View: view, Request: r, At: at, Commit: commit}
}

func ok(view, at uint64, from int) api.Message {
	return api.Message{Kind: api.MsgPrepareOK, View: view, At: at, From: from}
}

func commit(view, commit uint64) api.Message {
	return api.Message{Kind: api.MsgCommit, View: view, Commit: commit}
}

func start(view uint64, from int, seen ...uint64) api.Message {
	return api.Message{Kind: api.MsgStart, View: view, From: from, Seen: seen}
}

func get(view, at uint64, from int) api.Message {
	return api.Message{Kind: api.MsgGet, View: view, At: at, From: from}
}

func recovery(from int, nonce uint64) api.Message {
	return api.Message{Kind: api.MsgRecovery, From: from, Nonce: nonce}
}

func recovered(view, nonce uint64, from int, seen ...uint64) api.Message {
	return api.Message{Kind: api.MsgRecovered, View: view, Nonce: nonce, From: from, Seen: seen}
}

func state(view, base uint64, snap []byte, commit uint64, l ...api.Request) api.Message {
	return api.Message{Kind: api.MsgState, View: view, Base: base, Snap: snap, Log: l, Commit: commit}
}

// empty is the snapshot of a node that has nothing.
func empty(t *testing.T) []byte { return filled(t, 0) }

// filled is the snapshot of a node that has done so many requests of the first client.
func filled(t *testing.T, many uint64) []byte {
	t.Helper()
	n := of(t, 1, 0, 4096)
	n2 := of(t, 1, 0, int(max(many, 1)))
	for i := range many {
		n2.Take(raw(t, request(ask(1, i+1))))
		n2.Take(raw(t, ok(0, i+1, 1)))
		n = n2
	}
	m, e := message.Of(n.Take(raw(t, get(0, 1<<60, 1)))[0].Bytes)
	if e != api.OK || m.Base != many || len(m.Log) != 0 {
		t.Fatal(e, text(m))
	}
	return m.Snap
}

// do is what a node has that changes to a view.
func do(t *testing.T, view, normal, base, commit uint64, from int, seen []uint64, l ...api.Request) api.Message {
	t.Helper()
	return api.Message{Kind: api.MsgDo, View: view, Normal: normal, Base: base, Snap: filled(t, base), Log: l, Commit: commit, From: from, Seen: seen}
}

// begun is that a view begins.
func begun(t *testing.T, view, base, commit uint64, seen []uint64, l ...api.Request) api.Message {
	t.Helper()
	return api.Message{Kind: api.MsgView, View: view, Base: base, Snap: filled(t, base), Log: l, Commit: commit, Seen: seen}
}

// whole is what a primary has for one that comes back.
func whole(t *testing.T, view, nonce uint64, from int, seen []uint64, base, commit uint64, l ...api.Request) api.Message {
	t.Helper()
	m := recovered(view, nonce, from, seen...)
	m.Whole, m.Base, m.Snap, m.Log, m.Commit = true, base, filled(t, base), l, commit
	return m
}

// three are ages of three nodes.
func three(a, b, c uint64) []uint64 { return []uint64{a, b, c} }
