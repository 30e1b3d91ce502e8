package clients_test

import (
	"bytes"
	"slices"
	"testing"

	"blazon/api"
	"blazon/clients"
	"blazon/message"
)

// named is a result with an entry of a name.
func named(name string) api.Result {
	return api.Result{Yes: true, Entries: []api.Entry{{Name: name, Attrs: []api.Attr{{Type: "t", Value: "v"}}}}, Cursor: []byte("\x01c")}
}

// put notes an answer.
func put(t *testing.T, x *clients.Table, client, num uint64, r api.Result) {
	t.Helper()
	if e := x.Put(client, num, r); e != api.OK {
		t.Fatalf("%d %d: %v", client, num, e)
	}
}

// is fails the test unless a request is so, with this result.
func is(t *testing.T, x *clients.Table, client, num uint64, age api.Age, want api.Result) {
	t.Helper()
	if a, r := x.Ask(client, num); a != age || !message.SameResult(r, want) {
		t.Errorf("%d %d: %d %v, not %d %v", client, num, a, r, age, want)
	}
}

func TestP25_1AskPutLatest(t *testing.T) {
	x := clients.New()
	is(t, x, 7, 0, api.AgeNew, api.Result{})
	if n, is := x.Latest(7); n != 0 || is {
		t.Error(n, is)
	}
	put(t, x, 7, 3, named("a"))
	is(t, x, 7, 3, api.AgeSame, named("a"))
	is(t, x, 7, 2, api.AgeOld, api.Result{})
	is(t, x, 7, 0, api.AgeOld, api.Result{})
	is(t, x, 7, 4, api.AgeNew, api.Result{})
	is(t, x, 8, 3, api.AgeNew, api.Result{})
	is(t, x, 6, 3, api.AgeNew, api.Result{})
	put(t, x, 7, 9, api.Result{Code: api.ErrNone})
	is(t, x, 7, 9, api.AgeSame, api.Result{Code: api.ErrNone})
	is(t, x, 7, 3, api.AgeOld, api.Result{})
	if n, is := x.Latest(7); n != 9 || !is {
		t.Error(n, is)
	}
	put(t, x, 0, 0, api.Result{})
	is(t, x, 0, 0, api.AgeSame, api.Result{})
	put(t, x, 1<<64-1, 1<<64-1, named("b"))
	is(t, x, 1<<64-1, 1<<64-1, api.AgeSame, named("b"))
	is(t, x, 1<<64-1, 1<<64-2, api.AgeOld, api.Result{})
	if x.Len() != 3 {
		t.Error(x.Len())
	}
}

func TestP25_1PutErrors(t *testing.T) {
	x := clients.New()
	bad := api.Result{Code: 15}
	put(t, x, 1, 5, named("a"))
	for _, q := range []struct {
		client, num uint64
		r           api.Result
		want        api.Errno
	}{{1, 5, named("b"), api.ErrOld}, {1, 4, named("b"), api.ErrOld}, {1, 0, named("b"), api.ErrOld}, {1, 5, bad, api.ErrArg}, {1, 6, bad, api.ErrArg}, {2, 6, bad, api.ErrArg}} {
		if e := x.Put(q.client, q.num, q.r); e != q.want {
			t.Errorf("%d %d: %v", q.client, q.num, e)
		}
	}
	is(t, x, 1, 5, api.AgeSame, named("a"))
	for c := range uint64(15) {
		put(t, x, 10+c, 1, api.Result{})
	}
	if e := x.Put(99, 1, api.Result{}); e != api.ErrFull || x.Len() != 16 {
		t.Error(e, x.Len())
	}
	if e := x.Put(99, 1, bad); e != api.ErrArg {
		t.Error(e)
	}
	put(t, x, 1, 6, api.Result{})
	if e := x.Put(1, 6, api.Result{}); e != api.ErrOld {
		t.Error(e)
	}
}

func TestP25_1Memory(t *testing.T) {
	x := clients.New()
	r := named("a")
	put(t, x, 1, 1, r)
	r.Entries[0].Attrs[0].Value, r.Cursor[0] = "z", 9
	is(t, x, 1, 1, api.AgeSame, named("a"))
	_, r = x.Ask(1, 1)
	r.Entries[0].Name, r.Entries[0].Attrs[0].Value, r.Cursor[0] = "z", "z", 9
	is(t, x, 1, 1, api.AgeSame, named("a"))
}

func TestP25_2All(t *testing.T) {
	x := clients.New()
	for _, c := range []uint64{5, 1 << 63, 0, 3, 1} {
		put(t, x, c, c+1, api.Result{})
	}
	over := x.All()
	put(t, x, 3, 99, api.Result{})
	put(t, x, 4, 99, api.Result{})
	for range 2 {
		var got []uint64
		for c, n := range over {
			got = append(got, c)
			if n != c+1 {
				t.Errorf("%d: %d", c, n)
			}
		}
		if !slices.Equal(got, []uint64{0, 1, 3, 5, 1 << 63}) {
			t.Error(got)
		}
	}
	many := 0
	for range over {
		if many++; many == 2 {
			break
		}
	}
	if many != 2 || x.Len() != 6 {
		t.Error(many, x.Len())
	}
}

func TestP25_2Bytes(t *testing.T) {
	x := clients.New()
	if b := x.Bytes(); !bytes.Equal(b, []byte{0, 0, 0, 0}) {
		t.Error(b)
	}
	put(t, x, 258, 3, named("a"))
	put(t, x, 2, 1<<56+5, api.Result{Code: 3})
	one, _ := message.ResultBytes(api.Result{Code: 3})
	two, _ := message.ResultBytes(named("a"))
	want := slices.Concat([]byte{0, 0, 0, 2}, []byte{0, 0, 0, 0, 0, 0, 0, 2}, []byte{1, 0, 0, 0, 0, 0, 0, 5}, []byte{0, 0, 0, byte(len(one))}, one, []byte{0, 0, 0, 0, 0, 0, 1, 2}, []byte{0, 0, 0, 0, 0, 0, 0, 3}, []byte{0, 0, 0, byte(len(two))}, two)
	b := x.Bytes()
	if !bytes.Equal(b, want) {
		t.Errorf("%x, not %x", b, want)
	}
	kept := slices.Clone(b)
	y, e := clients.Of(b)
	if e != api.OK || !x.Same(y) || !bytes.Equal(b, kept) {
		t.Error(e)
	}
	for i := range b {
		b[i] = 0
	}
	if !x.Same(y) {
		t.Error("what was handed in was kept")
	}
}

func TestP25_2OfWrong(t *testing.T) {
	row := func(client, num byte, r api.Result) []byte {
		b, _ := message.ResultBytes(r)
		return slices.Concat([]byte{0, 0, 0, 0, 0, 0, 0, client, 0, 0, 0, 0, 0, 0, 0, num, 0, 0, 0, byte(len(b))}, b)
	}
	table := func(n byte, rows ...[]byte) []byte {
		return append([]byte{0, 0, 0, n}, slices.Concat(rows...)...)
	}
	a, b := row(1, 1, api.Result{}), row(2, 1, named("x"))
	if _, e := clients.Of(table(2, a, b)); e != api.OK {
		t.Error(e)
	}
	var many [][]byte
	for i := range 17 {
		many = append(many, row(byte(i), 1, api.Result{}))
	}
	if _, e := clients.Of(table(16, many[:16]...)); e != api.OK {
		t.Error(e)
	}
	long := append(slices.Clone(a[:16]), 255, 255, 255, 255)
	for i, x := range [][]byte{
		nil, {0, 0, 0}, table(1), table(0, a), table(1, a, b), table(2, a), table(2, b, a), table(2, a, a), table(2, a, row(1, 2, api.Result{})), table(17, many...), append(table(1, a), 0), table(1, append(slices.Clone(a[:16]), 0, 0, 0, 0)), table(1, append(slices.Clone(a[:16]), 0, 0, 0, 1, 9)), table(1, long), {255, 255, 255, 255}, append([]byte{1, 0, 0, 1}, a...),
	} {
		if y, e := clients.Of(x); y != nil || e != api.ErrBytes {
			t.Errorf("%d: %v", i, e)
		}
	}
	good := table(2, a, b)
	for i := range good {
		if y, e := clients.Of(good[:i]); y != nil || e != api.ErrBytes {
			t.Errorf("%d bytes: %v", i, e)
		}
		for _, bits := range []byte{1, 2, 128} {
			other := slices.Clone(good)
			other[i] ^= bits
			if y, e := clients.Of(other); e == api.OK && !bytes.Equal(y.Bytes(), other) {
				t.Errorf("%x is read as %x", other, y.Bytes())
			}
		}
	}
}

func TestP25_2CopySame(t *testing.T) {
	x, y := clients.New(), clients.New()
	if !x.Same(y) {
		t.Error("two without clients")
	}
	put(t, x, 1, 1, named("a"))
	put(t, x, 2, 2, named("b"))
	put(t, y, 2, 1, named("c"))
	put(t, y, 2, 2, named("b"))
	if x.Same(y) || y.Same(x) {
		t.Error("one client more")
	}
	put(t, y, 1, 1, named("a"))
	if !x.Same(y) || !y.Same(x) || !bytes.Equal(x.Bytes(), y.Bytes()) {
		t.Error("they are the same")
	}
	c := x.Copy()
	if !c.Same(x) {
		t.Error("a copy is not the same")
	}
	put(t, c, 1, 2, named("a"))
	if c.Same(x) || !x.Same(y) {
		t.Error("another number")
	}
	c = x.Copy()
	put(t, c, 3, 1, api.Result{})
	put(t, x, 3, 1, api.Result{Yes: true})
	if c.Same(x) || bytes.Equal(c.Bytes(), x.Bytes()) {
		t.Error("another result")
	}
}

func TestP25NilAndZero(t *testing.T) {
	for _, x := range []*clients.Table{nil, {}} {
		is(t, x, 1, 1, api.AgeNew, api.Result{})
		if n, is := x.Latest(1); n != 0 || is || x.Len() != 0 || len(x.Bytes()) != 0 {
			t.Error("nothing has something")
		}
		if e := x.Put(1, 1, api.Result{Code: 15}); e != api.ErrNil {
			t.Error(e)
		}
		for c := range x.All() {
			t.Error(c)
		}
		some := clients.New()
		put(t, some, 1, 1, api.Result{})
		if !x.Same(nil) || !x.Same(&clients.Table{}) || x.Same(some) || some.Same(x) {
			t.Error("two nil ones are the same")
		}
	}
	var none *clients.Table
	if none.Copy() != nil {
		t.Error("a copy of nil")
	}
}

func TestP25_3Rises(t *testing.T) {
	x := clients.New()
	latest := map[uint64]uint64{}
	n := uint32(3)
	for range 2000 {
		n = n*1664525 + 1013904223
		client, num := uint64(n>>28), uint64(n>>8&63)
		old, was := latest[client]
		e := x.Put(client, num, api.Result{Yes: num%2 == 0})
		if ok := !was || num > old; ok != (e == api.OK) {
			t.Fatalf("%d %d behind %d: %v", client, num, old, e)
		}
		if e == api.OK {
			latest[client] = num
		}
		if got, _ := x.Latest(client); got != latest[client] {
			t.Fatalf("%d: %d", client, got)
		}
		y, e := clients.Of(x.Bytes())
		if e != api.OK || !y.Same(x) {
			t.Fatal(e)
		}
	}
}
