package message_test

import (
	"bytes"
	"errors"
	"slices"
	"strings"
	"testing"

	"blazon/api"
	"blazon/message"
	"blazon/tlv"
)

// attrs are attributes of the types a, b, ..., so many.
func attrs(n int) []api.Attr {
	var l []api.Attr
	for i := range n {
		l = append(l, api.Attr{Type: string(rune('a'+i/26)) + string(rune('a'+i%26)), Value: "v"})
	}
	return l
}

// turned are attributes that do not rise, one of them twice.
var turned = []api.Attr{{Type: "b", Value: "1"}, {Type: "a", Value: ""}, {Type: "b", Value: "1"}}

var (
	long    = strings.Repeat("a", api.MaxText)
	longest = strings.Repeat("\x01", api.MaxCursor)
)

// ops are operations that may be.
func ops() []api.Op {
	return []api.Op{
		{Kind: api.OpAdd}, {Kind: api.OpAdd, Name: "n", Attrs: attrs(50)}, {Kind: api.OpAdd, Name: long}, {Kind: api.OpAdd, Name: "\ufffd"},
		{Kind: api.OpDelete, Name: "n"}, {Kind: api.OpDelete},
		{Kind: api.OpModify, Name: "n", Attrs: turned}, {Kind: api.OpModify}, {Kind: api.OpModify, Attrs: attrs(50)},
		{Kind: api.OpRename, Name: "n", To: "t"}, {Kind: api.OpRename, Name: long, To: long}, {Kind: api.OpRename},
		{Kind: api.OpCompare, Name: "n", Attrs: attrs(1)},
		{Kind: api.OpLookup, Name: "n"},
		{Kind: api.OpSearch}, {Kind: api.OpSearch, Parts: []string{"", "a", long, "", "", "", "", "b"}, Cursor: []byte("x\xff"), N: 1000}, {Kind: api.OpSearch, Parts: []string{""}},
		{Kind: api.OpPage}, {Kind: api.OpPage, Cursor: []byte(longest), N: 7},
	}
}

// badOps are operations that may not be.
func badOps() []api.Op {
	var l []api.Op
	for _, k := range []api.OpKind{0, -1, 9, 1 << 40} {
		l = append(l, api.Op{Kind: k})
	}
	for _, k := range []api.OpKind{api.OpAdd, api.OpDelete, api.OpModify, api.OpRename, api.OpLookup} {
		l = append(l, api.Op{Kind: k, Name: "\xff"}, api.Op{Kind: k, Name: long + "a"}, api.Op{Kind: k, N: 1}, api.Op{Kind: k, Cursor: []byte{1}}, api.Op{Kind: k, Parts: []string{""}})
		if k != api.OpRename {
			l = append(l, api.Op{Kind: k, To: "a"})
		}
	}
	for _, k := range []api.OpKind{api.OpDelete, api.OpRename, api.OpLookup, api.OpSearch, api.OpPage} {
		l = append(l, api.Op{Kind: k, Attrs: attrs(1)})
	}
	for _, k := range []api.OpKind{api.OpSearch, api.OpPage} {
		l = append(l, api.Op{Kind: k, Name: "a"}, api.Op{Kind: k, To: "a"}, api.Op{Kind: k, N: -1}, api.Op{Kind: k, N: 1001}, api.Op{Kind: k, N: 1 << 40}, api.Op{Kind: k, Cursor: []byte(longest + "x")})
	}
	return append(l,
		api.Op{Kind: api.OpAdd, Attrs: turned}, api.Op{Kind: api.OpAdd, Attrs: attrs(51)}, api.Op{Kind: api.OpAdd, Attrs: []api.Attr{{Type: "A"}}},
		api.Op{Kind: api.OpModify, Attrs: attrs(51)}, api.Op{Kind: api.OpModify, Attrs: []api.Attr{{Type: "a"}, {Type: "A"}}}, api.Op{Kind: api.OpModify, Attrs: []api.Attr{{Type: "a", Value: "\xff"}}},
		api.Op{Kind: api.OpRename, To: "\xff"}, api.Op{Kind: api.OpRename, To: long + "a"},
		api.Op{Kind: api.OpCompare}, api.Op{Kind: api.OpCompare, Attrs: attrs(2)}, api.Op{Kind: api.OpCompare, Attrs: []api.Attr{{}}}, api.Op{Kind: api.OpCompare, Attrs: attrs(1), N: 1},
		api.Op{Kind: api.OpSearch, Parts: make([]string, 9)}, api.Op{Kind: api.OpSearch, Parts: []string{"\xff"}}, api.Op{Kind: api.OpSearch, Parts: []string{"", long + "a"}}, api.Op{Kind: api.OpPage, Parts: []string{""}},
	)
}

// kinds hold calls of one kind of thing against each other.
type kind[T any] struct {
	may   func(T) bool
	bytes func(T) ([]byte, api.Errno)
	of    func([]byte) (T, api.Errno)
	same  func(a, b T) bool
}

// good fails the test unless things may be, are read as they were, and are like themselves alone.
func (k kind[T]) good(t *testing.T, l []T) {
	t.Helper()
	for i, x := range l {
		b, e := k.bytes(x)
		if !k.may(x) || e != api.OK || len(b) == 0 {
			t.Errorf("%d: %.200v: %v %v", i, x, k.may(x), e)
			continue
		}
		kept := slices.Clone(b)
		y, e := k.of(b)
		if e != api.OK || !k.same(x, y) || !k.same(y, x) || !bytes.Equal(b, kept) {
			t.Errorf("%d: %.200v: %.200v %v", i, x, y, e)
		}
		for j, z := range l {
			if k.same(x, z) != (i == j) {
				t.Errorf("%d and %d: %.200v, %.200v", i, j, x, z)
			}
		}
		if len(b) < 5000 {
			k.spoilt(t, b)
		}
	}
}

// spoilt fails the test unless bytes that differ from some are none's, or just another one's.
func (k kind[T]) spoilt(t *testing.T, b []byte) {
	t.Helper()
	none := func(b []byte) {
		x, e := k.of(b)
		var zero T
		if e != api.OK {
			if e != api.ErrBytes || !k.same(x, zero) {
				t.Errorf("%x: %v %v", b, x, e)
			}
			return
		}
		if again, e := k.bytes(x); !bytes.Equal(again, b) || e != api.OK {
			t.Errorf("%x is read as %x", b, again)
		}
	}
	for i := range b {
		for _, bits := range []byte{1, 2, 4, 0x80} {
			other := slices.Clone(b)
			other[i] ^= bits
			none(other)
		}
		if _, e := k.of(b[:i]); e != api.ErrBytes {
			t.Errorf("the first %d of %x: %v", i, b, e)
		}
	}
	if _, e := k.of(append(slices.Clone(b), 0)); e != api.ErrBytes {
		t.Errorf("one more than %x: %v", b, e)
	}
	none(append(slices.Clone(b), b...))
}

// bad fails the test unless things may not be.
func (k kind[T]) bad(t *testing.T, l []T) {
	t.Helper()
	for i, x := range l {
		if b, e := k.bytes(x); k.may(x) || len(b) != 0 || e != api.ErrArg {
			t.Errorf("%d: %.200v: %v %v", i, x, k.may(x), e)
		}
	}
}

var (
	opKind      = kind[api.Op]{message.MayOp, message.OpBytes, message.OpOf, message.SameOp}
	resultKind  = kind[api.Result]{message.MayResult, message.ResultBytes, message.ResultOf, message.SameResult}
	requestKind = kind[api.Request]{message.MayRequest, message.RequestBytes, message.RequestOf, message.SameRequest}
	messageKind = kind[api.Message]{message.MayMessage, message.Bytes, message.Of, message.Same}
)

func TestP23_1Ops(t *testing.T) {
	opKind.good(t, ops())
	opKind.bad(t, badOps())
	if !message.SameOp(api.Op{Kind: 1, Attrs: []api.Attr{}, Parts: []string{}, Cursor: []byte{}}, api.Op{Kind: 1}) {
		t.Error("nil and empty lists are one")
	}
}

func TestP23_1OpBytes(t *testing.T) {
	name := []byte{2, 0, 0, 0, 1, 'n'}
	number := func(tag, n byte) []byte { return []byte{tag, 0, 0, 0, 8, 0, 0, 0, 0, 0, 0, 0, n} }
	list := []byte{4, 0, 0, 0, 17, 3, 0, 0, 0, 12, 1, 0, 0, 0, 1, 'a', 2, 0, 0, 0, 1, 'v'}
	one := []api.Attr{{Type: "a", Value: "v"}}
	for i, x := range []struct {
		o    api.Op
		want []byte
	}{
		{api.Op{Kind: api.OpAdd, Name: "n", Attrs: one}, slices.Concat(number(1, 1), name, list)},
		{api.Op{Kind: api.OpDelete, Name: "n"}, slices.Concat(number(1, 2), name)},
		{api.Op{Kind: api.OpModify, Name: "n", Attrs: one}, slices.Concat(number(1, 3), name, list)},
		{api.Op{Kind: api.OpRename, Name: "n", To: "n"}, slices.Concat(number(1, 4), name, []byte{3, 0, 0, 0, 1, 'n'})},
		{api.Op{Kind: api.OpCompare, Name: "n", Attrs: one}, slices.Concat(number(1, 5), name, list)},
		{api.Op{Kind: api.OpLookup, Name: "n"}, slices.Concat(number(1, 6), name)},
		{api.Op{Kind: api.OpSearch, Parts: []string{"p", ""}, Cursor: []byte{9}, N: 5}, slices.Concat(number(1, 7), []byte{5, 0, 0, 0, 11, 1, 0, 0, 0, 1, 'p', 1, 0, 0, 0, 0}, []byte{6, 0, 0, 0, 1, 9}, number(7, 5))},
		{api.Op{Kind: api.OpPage, N: 5}, slices.Concat(number(1, 8), []byte{6, 0, 0, 0, 0}, number(7, 5))},
	} {
		if b, e := message.OpBytes(x.o); !bytes.Equal(b, x.want) || e != api.OK {
			t.Errorf("%d: %x %v", i, b, e)
		}
	}
}

func TestP23_1OpOfWrong(t *testing.T) {
	w := func() *tlv.Writer { return new(tlv.Writer) }
	for i, x := range []*tlv.Writer{
		w(), w().Number(1, 0), w().Number(1, 9), w().Number(1, 1<<63+1), w().Number(1, 1<<32+2).Text(2, "n"), w().Number(2, 2).Text(2, "n"), w().Number(1, 2), w().Number(1, 2).Text(3, "n"), w().Number(1, 2).Text(2, "n").Text(3, ""),
		w().Number(1, 2).Text(2, "\xff"), w().Number(1, 2).Text(2, long+"a"), w().Number(1, 8).Bytes(6, nil).Number(7, 1001), w().Number(1, 8).Bytes(6, nil).Number(7, 1<<63), w().Number(1, 8).Bytes(6, []byte(longest+"x")).Number(7, 1),
		w().Number(1, 8).Number(7, 1).Bytes(6, nil), w().Number(1, 7).List(5, 9, func(w *tlv.Writer, i int) { w.Text(1, "") }).Bytes(6, nil).Number(7, 1), w().Number(1, 7).List(5, 1, func(w *tlv.Writer, i int) { w.Text(2, "") }).Bytes(6, nil).Number(7, 1),
		w().Number(1, 3).Text(2, "n").List(4, 1, func(w *tlv.Writer, i int) { w.Text(3, "") }), w().Number(1, 1).Text(2, "n").List(4, 1, func(w *tlv.Writer, i int) { w.Bytes(3, []byte{1, 0, 0, 0, 1, 'a'}) }),
	} {
		b, e := x.End()
		if e != api.OK {
			t.Fatal(i, e)
		}
		if o, e := message.OpOf(b); !message.SameOp(o, api.Op{}) || e != api.ErrBytes {
			t.Errorf("%d: %v %v", i, o, e)
		}
	}
}

// entries are so many entries that may be.
func entries(n, size int) []api.Entry {
	l := make([]api.Entry, n)
	for i := range l {
		l[i] = api.Entry{Name: strings.Repeat("n", size)}
	}
	return l
}

// results are results that may be.
func results() []api.Result {
	l := []api.Result{{}, {Yes: true}, {Entries: []api.Entry{{Name: "a", Attrs: attrs(2)}, {Name: "a"}}}, {Cursor: []byte("\x01a")}, {Yes: true, Entries: []api.Entry{{}}, Cursor: []byte(longest)}, {Entries: entries(1000, 0)}, {Entries: entries(1000, 1000)}}
	for e := api.ErrNil; e <= api.ErrOld; e++ {
		l = append(l, api.Result{Code: e})
	}
	return l
}

func TestP23_2Results(t *testing.T) {
	resultKind.good(t, results())
	great := make([]api.Entry, 80) // each of some 52000 bytes: more than a value may have in all
	for i := range great {
		great[i].Name = long
		for _, a := range attrs(50) {
			great[i].Attrs = append(great[i].Attrs, api.Attr{Type: a.Type + strings.Repeat("-", 30), Value: long})
		}
	}
	resultKind.good(t, []api.Result{{Entries: great[:70]}})
	resultKind.bad(t, []api.Result{
		{Code: -1}, {Code: 15}, {Code: 1 << 40}, {Code: 1, Yes: true}, {Code: 1, Entries: entries(1, 1)}, {Code: 1, Cursor: []byte{1}},
		{Entries: entries(1001, 0)}, {Entries: []api.Entry{{Name: "\xff"}}}, {Entries: []api.Entry{{}, {Attrs: turned}}}, {Cursor: []byte(longest + "x")}, {Entries: great},
	})
	if !message.SameResult(api.Result{Entries: []api.Entry{}, Cursor: []byte{}}, api.Result{}) {
		t.Error("nil and empty lists are one")
	}
}

func TestP23_2ResultBytes(t *testing.T) {
	want := slices.Concat([]byte{1, 0, 0, 0, 8, 0, 0, 0, 0, 0, 0, 0, 0}, []byte{2, 0, 0, 0, 1, 1}, []byte{3, 0, 0, 0, 16, 1, 0, 0, 0, 11, 1, 0, 0, 0, 1, 'n', 2, 0, 0, 0, 0}, []byte{4, 0, 0, 0, 1, 9})
	if b, e := message.ResultBytes(api.Result{Yes: true, Entries: []api.Entry{{Name: "n"}}, Cursor: []byte{9}}); !bytes.Equal(b, want) || e != api.OK {
		t.Errorf("%x %v", b, e)
	}
	w := func() *tlv.Writer { return new(tlv.Writer) }
	for i, x := range []*tlv.Writer{
		w(), w().Number(1, 15).Flag(2, false).List(3, 0, nil).Bytes(4, nil), w().Number(1, 1<<63).Flag(2, false).List(3, 0, nil).Bytes(4, nil), w().Number(1, 1).Flag(2, true).List(3, 0, nil).Bytes(4, nil), w().Number(1, 1).Flag(2, false).List(3, 0, nil).Bytes(4, []byte{1}),
		w().Number(1, 0).Flag(2, false).List(3, 1, func(w *tlv.Writer, i int) { w.Text(1, "x") }).Bytes(4, nil), w().Number(1, 0).List(3, 0, nil).Bytes(4, nil),
		w().Number(1, 0).Flag(2, false).List(3, 1001, func(w *tlv.Writer, i int) { w.Bytes(1, []byte{1, 0, 0, 0, 0, 2, 0, 0, 0, 0}) }).Bytes(4, nil),
	} {
		b, _ := x.End()
		if r, e := message.ResultOf(b); !message.SameResult(r, api.Result{}) || e != api.ErrBytes {
			t.Errorf("%d: %v %v", i, r, e)
		}
	}
}

func TestP23_2Requests(t *testing.T) {
	var l, bad []api.Request
	for i, o := range ops() {
		l = append(l, api.Request{Client: uint64(i), Num: 1<<64 - 1, Op: o})
	}
	l = append(l, api.Request{Op: ops()[0], Num: 5}, api.Request{Op: ops()[0], Num: 6})
	for _, o := range badOps() {
		bad = append(bad, api.Request{Client: 1, Num: 1, Op: o})
	}
	requestKind.good(t, l)
	requestKind.bad(t, bad)
	o := []byte{1, 0, 0, 0, 8, 0, 0, 0, 0, 0, 0, 0, 6, 2, 0, 0, 0, 1, 'n'}
	want := slices.Concat([]byte{1, 0, 0, 0, 8, 0, 0, 0, 0, 0, 0, 0, 7}, []byte{2, 0, 0, 0, 8, 0, 0, 0, 0, 0, 0, 1, 0}, []byte{3, 0, 0, 0, byte(len(o))}, o)
	if b, e := message.RequestBytes(api.Request{Client: 7, Num: 256, Op: api.Op{Kind: api.OpLookup, Name: "n"}}); !bytes.Equal(b, want) || e != api.OK {
		t.Errorf("%x %v", b, e)
	}
}

func TestP23_2Copies(t *testing.T) {
	o := api.Op{Kind: 1, Attrs: attrs(2), Parts: []string{"a"}, Cursor: []byte{1}}
	q := api.Request{Client: 1, Num: 2, Op: o}
	r := api.Result{Yes: true, Entries: []api.Entry{{Name: "n", Attrs: attrs(1)}}, Cursor: []byte{1}}
	m := api.Message{Kind: 5, View: 1, Request: q, Result: r, Snap: []byte{1}, Log: []api.Request{q}, Seen: []uint64{1}}
	q2, r2, m2 := message.CopyRequest(q), message.CopyResult(r), message.Copy(m)
	if !message.SameRequest(q, q2) || !message.SameResult(r, r2) || !message.Same(m, m2) {
		t.Error("a copy is not the same")
	}
	for _, x := range []api.Op{q2.Op, m2.Request.Op, m2.Log[0].Op} {
		x.Attrs[0].Value, x.Parts[0], x.Cursor[0] = "z", "z", 9
	}
	for _, x := range []api.Result{r2, m2.Result} {
		x.Entries[0].Attrs[0].Value, x.Cursor[0] = "z", 9
		x.Entries[0].Name = "z"
	}
	m2.Snap[0], m2.Seen[0] = 9, 9
	m2.Log[0].Client = 9
	if o.Attrs[0].Value != "v" || o.Parts[0] != "a" || o.Cursor[0] != 1 || r.Entries[0].Name != "n" || r.Entries[0].Attrs[0].Value != "v" || r.Cursor[0] != 1 || m.Snap[0] != 1 || m.Seen[0] != 1 || m.Log[0].Client != 1 {
		t.Error("a copy shares memory")
	}
}

// all is a message of a kind with all fields, whether it names them or not.
func all(k api.MsgKind) api.Message {
	return api.Message{
		Kind: k, View: 1, Normal: 2, From: 3, Client: 4, Num: 5, Request: api.Request{Client: 6, Num: 7, Op: api.Op{Kind: api.OpLookup, Name: "n"}}, Result: api.Result{Yes: true},
		At: 8, Commit: 9, Base: 10, Snap: []byte{11}, Log: []api.Request{{Client: 12, Num: 13, Op: api.Op{Kind: api.OpDelete}}}, Nonce: 14, Whole: true, Seen: []uint64{15, 16},
	}
}

// fields are what of a message is named by its kind, by letters: as the chapter's list of kinds has them.
var fields = map[api.MsgKind]string{
	api.MsgRequest: "q", api.MsgReply: "vcur", api.MsgPrepare: "vqam", api.MsgPrepareOK: "vaf", api.MsgCommit: "vm", api.MsgStart: "vfs", api.MsgDo: "vnbpgmfs", api.MsgView: "vbpgms",
	api.MsgRecovery: "fo", api.MsgRecovered: "vofswbpgm", api.MsgGet: "vaf", api.MsgState: "vbpgm",
}

// without makes a field of a message, told by its letter, nothing.
func without(m *api.Message, field rune) {
	switch field {
	case 'v':
		m.View = 0
	case 'n':
		m.Normal = 0
	case 'f':
		m.From = 0
	case 'c':
		m.Client = 0
	case 'u':
		m.Num = 0
	case 'q':
		m.Request = api.Request{}
	case 'r':
		m.Result = api.Result{}
	case 'a':
		m.At = 0
	case 'm':
		m.Commit = 0
	case 'b':
		m.Base = 0
	case 'p':
		m.Snap = nil
	case 'g':
		m.Log = nil
	case 'o':
		m.Nonce = 0
	case 'w':
		m.Whole = false
	case 's':
		m.Seen = nil
	}
}

const letters = "vnfcuqrambpgows"

// only is a message of a kind with all that it names, and nothing else.
func only(k api.MsgKind) api.Message {
	m := all(k)
	for _, c := range letters {
		if !strings.ContainsRune(fields[k], c) {
			without(&m, c)
		}
	}
	return m
}

func TestP23_3Messages(t *testing.T) {
	var l []api.Message
	for k := api.MsgRequest; k <= api.MsgState; k++ {
		m := only(k)
		l = append(l, m)
		for _, c := range fields[k] {
			if c == 'q' || c == 'w' {
				continue
			}
			less := m
			without(&less, c)
			l = append(l, less)
		}
	}
	less := only(api.MsgRecovered)
	for _, c := range "wbpgm" {
		without(&less, c)
	}
	most := only(api.MsgStart)
	most.From, most.Seen = 6, make([]uint64, 7)
	messageKind.good(t, append(l, less, most))
}

func TestP23_3MayNot(t *testing.T) {
	var bad []api.Message
	for _, k := range []api.MsgKind{0, -1, 13, 1 << 40} {
		bad = append(bad, api.Message{Kind: k})
	}
	for k := api.MsgRequest; k <= api.MsgState; k++ {
		for _, c := range letters {
			if strings.ContainsRune(fields[k], c) {
				continue
			}
			// one field more than it names
			m := all(k)
			for _, other := range letters {
				if other != c && !strings.ContainsRune(fields[k], other) {
					without(&m, other)
				}
			}
			bad = append(bad, m)
		}
		if strings.ContainsRune(fields[k], 'f') {
			for _, from := range []int{-1, 7, 1 << 40} {
				m := only(k)
				m.From = from
				bad = append(bad, m)
			}
		}
		m := only(k)
		if len(m.Seen) > 0 {
			m.Seen = make([]uint64, 8)
			bad = append(bad, m)
			m = only(k)
		}
		if len(m.Log) > 0 {
			m.Log = []api.Request{{Op: api.Op{Kind: api.OpDelete}}, {}}
			bad = append(bad, m)
			m.Log = slices.Repeat(only(k).Log, 4097)
			bad = append(bad, m)
			m = only(k)
			m.Snap = make([]byte, api.MaxValue+1)
			bad = append(bad, m)
		}
	}
	for _, c := range "bpgm" {
		m := only(api.MsgRecovered)
		for _, other := range "wbpgm" {
			if other != c {
				without(&m, other)
			}
		}
		bad = append(bad, m)
	}
	messageKind.bad(t, append(bad, api.Message{Kind: api.MsgRequest}, api.Message{Kind: api.MsgPrepare}, api.Message{Kind: api.MsgReply, Result: api.Result{Code: 15}}, api.Message{Kind: api.MsgReply, Result: api.Result{Code: 1, Yes: true}}))
}

func TestP23_3Long(t *testing.T) {
	great := api.Request{Op: api.Op{Kind: api.OpModify, Name: long}}
	for _, a := range attrs(50) {
		great.Op.Attrs = append(great.Op.Attrs, api.Attr{Type: a.Type, Value: long})
	}
	b, _ := message.RequestBytes(great)
	m := only(api.MsgState)
	m.Snap = make([]byte, api.MaxValue)
	m.Log = slices.Repeat([]api.Request{great}, api.MaxValue/(len(b)+5))
	b, e := message.Bytes(m)
	if e != api.OK || len(b) > api.MaxMessage {
		t.Fatal(len(b), e)
	}
	if got, e := message.Of(b); !message.Same(got, m) || e != api.OK {
		t.Error(e)
	}
	m.Log = append(m.Log, great) // its bytes are a value that is too long
	messageKind.bad(t, []api.Message{m})
	m.Log = slices.Repeat([]api.Request{{Op: api.Op{Kind: api.OpDelete}}}, 4096)
	messageKind.good(t, []api.Message{m})
}

func TestP23_3TooManyBytes(t *testing.T) {
	m := only(api.MsgDo)
	m.Snap = make([]byte, api.MaxValue)
	m.Log = nil
	for range 4096 {
		m.Log = append(m.Log, api.Request{Op: api.Op{Kind: api.OpDelete, Name: long[:960]}})
	}
	b, _ := message.RequestBytes(m.Log[0])
	for (len(b)+5)*len(m.Log) > api.MaxValue {
		m.Log = m.Log[1:]
	}
	// All values may be, but with their tags they are too many bytes in all.
	rest := api.MaxValue - (len(b)+5)*len(m.Log)
	for len(m.Log) > 0 && rest > 0 {
		n := min(rest, 1000-960)
		m.Log[len(m.Log)-1-rest/40%len(m.Log)].Op.Name = long[:960+n]
		rest -= n
	}
	if b, e := message.Bytes(m); e != api.ErrArg || len(b) != 0 || message.MayMessage(m) {
		t.Error(len(b), e)
	}
	m.Snap = m.Snap[:api.MaxValue-1000]
	if b, e := message.Bytes(m); e != api.OK || len(b) > api.MaxMessage || len(b) < api.MaxMessage-2000 {
		t.Error(len(b), e)
	}
}

func TestP23_3MessageBytes(t *testing.T) {
	number := func(tag, n byte) []byte { return []byte{tag, 0, 0, 0, 8, 0, 0, 0, 0, 0, 0, 0, n} }
	value := func(tag byte, b []byte) []byte { return append([]byte{tag, 0, 0, 0, byte(len(b))}, b...) }
	m := all(0)
	q, _ := message.RequestBytes(m.Request)
	r, _ := message.ResultBytes(m.Result)
	l, _ := message.RequestBytes(m.Log[0])
	parts := map[rune][]byte{
		'v': number(2, 1), 'n': number(3, 2), 'f': number(4, 3), 'c': number(5, 4), 'u': number(6, 5), 'q': value(7, q), 'r': value(8, r), 'a': number(9, 8), 'm': number(10, 9), 'b': number(11, 10),
		'p': value(12, []byte{11}), 'g': value(13, value(1, l)), 'o': number(14, 14), 'w': {15, 0, 0, 0, 1, 1}, 's': value(16, slices.Concat(number(1, 15), number(1, 16))),
	}
	for k := api.MsgRequest; k <= api.MsgState; k++ {
		want := number(1, byte(k))
		for _, c := range letters {
			if strings.ContainsRune(fields[k], c) {
				want = append(want, parts[c]...)
			}
		}
		if b, e := message.Bytes(only(k)); !bytes.Equal(b, want) || e != api.OK {
			t.Errorf("%d: %x, not %x, %v", k, b, want, e)
		}
	}
	less := only(api.MsgRecovered)
	for _, c := range "wbpgm" {
		without(&less, c)
	}
	want := slices.Concat(number(1, 10), parts['v'], parts['f'], parts['o'], []byte{15, 0, 0, 0, 1, 0}, parts['s'])
	if b, e := message.Bytes(less); !bytes.Equal(b, want) || e != api.OK {
		t.Errorf("%x, not %x, %v", b, want, e)
	}
	if b, e := message.Bytes(api.Message{Kind: api.MsgCommit, View: 1, Commit: 2}); len(b) != 39 || e != api.OK {
		t.Error(len(b), e)
	}
	// Whole must be told as what stands ahead of it.
	for _, b := range [][]byte{
		slices.Concat(number(1, 10), parts['v'], parts['f'], parts['o'], []byte{15, 0, 0, 0, 1, 1}, parts['s']),
		slices.Concat(number(1, 10), parts['v'], parts['f'], parts['m'], parts['b'], parts['p'], parts['g'], parts['o'], []byte{15, 0, 0, 0, 1, 0}, parts['s']),
	} {
		if _, e := message.Of(b); e != api.ErrBytes {
			t.Error(e)
		}
	}
}

func TestP23_3Check(t *testing.T) {
	good, _ := message.Bytes(api.Message{Kind: api.MsgCommit, View: 1, Commit: 2})
	if err := message.Check(good); err != nil {
		t.Error(err)
	}
	kind := func(n uint64) []byte {
		b, _ := new(tlv.Writer).Number(1, n).Number(2, 1).Number(10, 2).End()
		return b
	}
	turned, _ := new(tlv.Writer).Number(2, 1).Number(1, 5).Number(10, 2).End()
	request, _ := new(tlv.Writer).Number(1, 1).Bytes(7, []byte("x")).End()
	from, _ := new(tlv.Writer).Number(1, 9).Number(4, 7).Number(14, 1).End()
	farFrom, _ := new(tlv.Writer).Number(1, 9).Number(4, 1<<63).Number(14, 1).End()
	seen, _ := new(tlv.Writer).Number(1, 6).Number(2, 1).Number(4, 1).List(16, 8, func(w *tlv.Writer, i int) { w.Number(1, 1) }).End()
	log, _ := new(tlv.Writer).Number(1, 12).Number(2, 1).Number(10, 1).Number(11, 1).Bytes(12, nil).List(13, 4097, func(w *tlv.Writer, i int) {
		b, _ := message.RequestBytes(api.Request{Op: api.Op{Kind: api.OpDelete}})
		w.Bytes(1, b)
	}).End()
	for i, x := range []struct {
		b    []byte
		what string
		why  api.Errno
	}{
		{make([]byte, api.MaxMessage+1), "length", api.ErrLong}, {append(slices.Clone(good), make([]byte, api.MaxMessage)...), "length", api.ErrLong},
		{kind(0), "kind", api.ErrBytes}, {kind(13), "kind", api.ErrBytes}, {kind(1 << 63), "kind", api.ErrBytes}, {kind(1<<32 + 5), "kind", api.ErrBytes}, {turned, "kind", api.ErrBytes}, {[]byte{1, 0, 0, 0, 1, 5}, "kind", api.ErrBytes},
		{kind(6), "fields", api.ErrBytes}, {good[:len(good)-1], "fields", api.ErrBytes}, {good[:13], "fields", api.ErrBytes}, {append(slices.Clone(good), 1), "fields", api.ErrBytes}, {request, "fields", api.ErrBytes}, {from, "fields", api.ErrBytes}, {farFrom, "fields", api.ErrBytes}, {seen, "fields", api.ErrBytes}, {log, "fields", api.ErrBytes},
	} {
		m, e := message.Of(x.b)
		err := message.Check(x.b)
		var at *api.MessageError
		if e != x.why || !message.Same(m, api.Message{}) || err == nil || !errors.Is(err, x.why) || !errors.As(err, &at) || *at != (api.MessageError{What: x.what, Why: x.why}) {
			t.Errorf("%d: %v %v", i, e, err)
		}
	}
}
