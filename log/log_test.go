package log_test

import (
	"slices"
	"strings"
	"testing"

	"blazon/api"
	"blazon/log"
	"blazon/message"
)

// ask is a request of a client's, by a number.
func ask(num uint64) api.Request {
	return api.Request{Client: 1, Num: num, Op: api.Op{Kind: api.OpAdd, Name: "n", Attrs: []api.Attr{{Type: "t", Value: "v"}}}}
}

// asks are requests of these numbers.
func asks(nums ...uint64) []api.Request {
	var l []api.Request
	for _, n := range nums {
		l = append(l, ask(n))
	}
	return l
}

// of is a log of a base, and requests of these numbers.
func of(t *testing.T, base uint64, nums ...uint64) *log.Log {
	t.Helper()
	l, e := log.Of(base, asks(nums...)...)
	if l == nil || e != api.OK {
		t.Fatal(e)
	}
	return l
}

// has fails the test unless a log has just this.
func has(t *testing.T, l *log.Log, base uint64, nums ...uint64) {
	t.Helper()
	end, size := base+uint64(len(nums)), 0
	got, e := l.From(base)
	if e != api.OK || l.Base() != base || l.End() != end || l.Len() != len(nums) || !slices.EqualFunc(got, asks(nums...), message.SameRequest) {
		t.Errorf("%d to %d, %v, %v", l.Base(), l.End(), got, e)
	}
	for i, num := range nums {
		r, e := l.At(base + 1 + uint64(i))
		if !message.SameRequest(r, ask(num)) || e != api.OK {
			t.Errorf("at %d: %v %v", base+1+uint64(i), r, e)
		}
		b, _ := message.RequestBytes(r)
		size += len(b)
	}
	if l.Size() != size {
		t.Errorf("%d bytes, not %d", l.Size(), size)
	}
	for _, n := range []uint64{0, base, end + 1, 1<<64 - 1} {
		if n > base && n <= end {
			continue
		}
		if r, e := l.At(n); !message.SameRequest(r, api.Request{}) || e != api.ErrNone {
			t.Errorf("at %d: %v %v", n, r, e)
		}
	}
	for _, n := range []uint64{base - 1, end + 1} {
		if r, e := l.From(n); len(r) != 0 || e != api.ErrNone {
			t.Errorf("from %d: %v %v", n, r, e)
		}
	}
	for i := range nums {
		if r, e := l.From(base + 1 + uint64(i)); len(r) != len(nums)-1-i || e != api.OK {
			t.Errorf("from %d: %v %v", base+1+uint64(i), r, e)
		}
	}
}

func TestP24_1NewOf(t *testing.T) {
	has(t, log.New(), 0)
	has(t, of(t, 0), 0)
	has(t, of(t, 5, 7, 8), 5, 7, 8)
	has(t, of(t, 1<<62, 1), 1<<62, 1)
	bad := api.Request{Op: api.Op{Kind: 9}}
	for i, x := range []struct {
		base uint64
		l    []api.Request
		want api.Errno
	}{
		{1<<62 + 1, nil, api.ErrArg}, {1<<64 - 1, asks(1), api.ErrArg}, {0, []api.Request{bad}, api.ErrArg}, {0, append(asks(1, 2), bad), api.ErrArg},
		{0, slices.Repeat(asks(1), 4097), api.ErrFull}, {0, append(slices.Repeat(asks(1), 4097), bad), api.ErrArg}, {1<<62 + 1, slices.Repeat(asks(1), 4097), api.ErrArg},
	} {
		if l, e := log.Of(x.base, x.l...); l != nil || e != x.want {
			t.Errorf("%d: %v", i, e)
		}
	}
	if l, e := log.Of(3, slices.Repeat(asks(1), 4096)...); l.End() != 4099 || e != api.OK {
		t.Error(e)
	}
}

func TestP24_1Append(t *testing.T) {
	l := of(t, 5, 1)
	if n, e := l.Append(ask(2)); n != 7 || e != api.OK {
		t.Error(n, e)
	}
	if n, e := l.Append(ask(3)); n != 8 || e != api.OK {
		t.Error(n, e)
	}
	has(t, l, 5, 1, 2, 3)
	if n, e := l.Append(api.Request{}); n != 0 || e != api.ErrArg {
		t.Error(n, e)
	}
	has(t, l, 5, 1, 2, 3)
	l = log.New()
	for i := range uint64(4096) {
		if n, e := l.Append(ask(1)); n != i+1 || e != api.OK {
			t.Fatal(n, e)
		}
	}
	if n, e := l.Append(ask(1)); n != 0 || e != api.ErrFull || l.End() != 4096 {
		t.Error(n, e)
	}
	if n, e := l.Append(api.Request{}); n != 0 || e != api.ErrArg {
		t.Error(n, e)
	}
	if e := l.Drop(1); e != api.OK {
		t.Error(e)
	}
	if n, e := l.Append(ask(1)); n != 4097 || e != api.OK {
		t.Error(n, e)
	}
}

func TestP24_1Bytes(t *testing.T) {
	great := api.Request{Op: api.Op{Kind: api.OpModify}}
	for i := range 50 {
		great.Op.Attrs = append(great.Op.Attrs, api.Attr{Type: "t", Value: string(rune('0'+i)) + strings.Repeat("v", 900)})
	}
	b, _ := message.RequestBytes(great)
	l := log.New()
	for l.Size()+len(b) <= api.MaxLogBytes {
		if _, e := l.Append(great); e != api.OK {
			t.Fatal(e)
		}
	}
	many := l.Len()
	if n, e := l.Append(great); n != 0 || e != api.ErrFull || l.Len() != many {
		t.Error(n, e)
	}
	// exactly as many bytes as there may be, and one more
	rest := api.MaxLogBytes - l.Size()
	small := api.Request{Op: api.Op{Kind: api.OpAdd}}
	empty, _ := message.RequestBytes(small)
	for rest-len(empty) > 1000 {
		small.Op.Name = strings.Repeat("n", 1000)
		b, _ := message.RequestBytes(small)
		if rest-len(b) < len(empty) {
			small.Op.Name = strings.Repeat("n", 900)
			b, _ = message.RequestBytes(small)
		}
		if _, e := l.Append(small); e != api.OK {
			t.Fatal(e)
		}
		rest -= len(b)
	}
	small.Op.Name = strings.Repeat("n", rest-len(empty)+1)
	if n, e := l.Append(small); n != 0 || e != api.ErrFull {
		t.Error(n, e)
	}
	small.Op.Name = small.Op.Name[1:]
	if _, e := l.Append(small); e != api.OK || l.Size() != api.MaxLogBytes {
		t.Error(l.Size(), e)
	}
	all, _ := l.From(0)
	if l, e := log.Of(0, all...); e != api.OK || l.Size() != api.MaxLogBytes {
		t.Error(e)
	}
	if l, e := log.Of(0, append(all, small)...); l != nil || e != api.ErrFull {
		t.Error(e)
	}
}

func TestP24_2CutDrop(t *testing.T) {
	l := of(t, 5, 1, 2, 3, 4)
	for _, n := range []uint64{0, 4, 10, 1<<64 - 1} {
		if e := l.Cut(n); e != api.ErrNone {
			t.Error(n, e)
		}
		if e := l.Drop(n); e != api.ErrNone {
			t.Error(n, e)
		}
	}
	has(t, l, 5, 1, 2, 3, 4)
	for _, e := range []api.Errno{l.Cut(9), l.Drop(5)} {
		if e != api.OK {
			t.Error(e)
		}
	}
	has(t, l, 5, 1, 2, 3, 4)
	if e := l.Cut(8); e != api.OK {
		t.Error(e)
	}
	has(t, l, 5, 1, 2, 3)
	if e := l.Drop(6); e != api.OK {
		t.Error(e)
	}
	has(t, l, 6, 2, 3)
	if n, e := l.Append(ask(9)); n != 9 || e != api.OK {
		t.Error(n, e)
	}
	has(t, l, 6, 2, 3, 9)
	if e := l.Cut(6); e != api.OK {
		t.Error(e)
	}
	has(t, l, 6)
	if n, e := l.Append(ask(8)); n != 7 || e != api.OK {
		t.Error(n, e)
	}
	if e := l.Drop(7); e != api.OK {
		t.Error(e)
	}
	has(t, l, 7)
}

func TestP24_3Begins(t *testing.T) {
	for i, x := range []struct {
		a, b *log.Log
		want bool
	}{
		{log.New(), log.New(), true}, {log.New(), of(t, 0, 1), true}, {of(t, 0, 1), log.New(), false},
		{of(t, 0, 1, 2), of(t, 0, 1, 2, 3), true}, {of(t, 0, 1, 2, 3), of(t, 0, 1, 2, 3), true}, {of(t, 0, 1, 2, 3), of(t, 0, 1, 2), false}, {of(t, 0, 1, 3), of(t, 0, 1, 2, 3), false},
		{of(t, 1, 2), of(t, 0, 1, 2, 3), true}, {of(t, 0, 1, 2), of(t, 1, 2, 3), true}, {of(t, 0, 9, 2), of(t, 1, 2, 3), true}, {of(t, 0, 1, 3), of(t, 1, 2, 3), false},
		{of(t, 0, 1), of(t, 5, 6), true}, {of(t, 5), of(t, 0, 1, 2, 3, 4), false}, {of(t, 4), of(t, 0, 1, 2, 3, 4), true}, {of(t, 3, 5), of(t, 0, 1, 2, 3, 4), false},
		{nil, log.New(), false}, {log.New(), nil, false}, {nil, nil, false}, {&log.Log{}, log.New(), false}, {log.New(), &log.Log{}, false},
	} {
		if x.a.Begins(x.b) != x.want {
			t.Errorf("%d: %v", i, !x.want)
		}
	}
}

func TestP24_3Copy(t *testing.T) {
	l := of(t, 0, 1, 2, 3)
	l.Append(ask(4))
	a, b := l.Copy(), l.Copy()
	for i, x := range []*log.Log{l, a, b} {
		x.Append(ask(uint64(10 + i)))
	}
	has(t, l, 0, 1, 2, 3, 4, 10)
	has(t, a, 0, 1, 2, 3, 4, 11)
	has(t, b, 0, 1, 2, 3, 4, 12)
	c := l.Copy()
	l.Cut(1)
	l.Append(ask(20))
	l.Append(ask(21))
	has(t, l, 0, 1, 20, 21)
	has(t, c, 0, 1, 2, 3, 4, 10)
	c.Drop(2)
	c.Cut(3)
	c.Append(ask(30))
	has(t, c, 2, 3, 30)
	has(t, a, 0, 1, 2, 3, 4, 11)
	has(t, b, 0, 1, 2, 3, 4, 12)
}

func TestP24Memory(t *testing.T) {
	r := ask(1)
	l, _ := log.Of(0, r)
	l.Append(r)
	r.Op.Attrs[0].Value = "z"
	has(t, l, 0, 1, 1)
	x, _ := l.At(1)
	x.Op.Attrs[0].Value = "z"
	all, _ := l.From(0)
	all[1].Op.Attrs[0].Value = "z"
	has(t, l, 0, 1, 1)
}

func TestP24NilAndZero(t *testing.T) {
	for _, l := range []*log.Log{nil, {}} {
		n, e := l.Append(api.Request{})
		r, e2 := l.At(1)
		all, e3 := l.From(0)
		if n != 0 || !message.SameRequest(r, api.Request{}) || len(all) != 0 || e != api.ErrNil || e2 != api.ErrNil || e3 != api.ErrNil || l.Cut(0) != api.ErrNil || l.Drop(0) != api.ErrNil {
			t.Error(e, e2, e3)
		}
		if l.Base() != 0 || l.End() != 0 || l.Len() != 0 || l.Size() != 0 {
			t.Error("nothing has something")
		}
	}
	var none *log.Log
	if none.Copy() != nil {
		t.Error("a copy of nil")
	}
}
