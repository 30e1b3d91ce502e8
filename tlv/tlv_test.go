package tlv_test

import (
	"bytes"
	"slices"
	"testing"

	"blazon/api"
	"blazon/tlv"
)

// ended fails the test unless a writer ends with these bytes.
func ended(t *testing.T, w *tlv.Writer, want ...byte) {
	t.Helper()
	if b, e := w.End(); e != api.OK || !bytes.Equal(b, want) {
		t.Errorf("%v %v, not %v", b, e, want)
	}
}

// failed fails the test unless a writer ends with this error.
func failed(t *testing.T, w *tlv.Writer, want api.Errno) {
	t.Helper()
	if b, e := w.End(); e != want || len(b) != 0 {
		t.Errorf("%v %v, not %v", b, e, want)
	}
}

func TestP2_1Values(t *testing.T) {
	ended(t, new(tlv.Writer))
	ended(t, new(tlv.Writer).Number(7, 258), 7, 0, 0, 0, 8, 0, 0, 0, 0, 0, 0, 1, 2)
	ended(t, new(tlv.Writer).Number(255, 1<<64-1), 255, 0, 0, 0, 8, 255, 255, 255, 255, 255, 255, 255, 255)
	ended(t, new(tlv.Writer).Number(1, 0x0102030405060708), 1, 0, 0, 0, 8, 1, 2, 3, 4, 5, 6, 7, 8)
	ended(t, new(tlv.Writer).Flag(1, true).Flag(2, false), 1, 0, 0, 0, 1, 1, 2, 0, 0, 0, 1, 0)
	ended(t, new(tlv.Writer).Text(3, "a\xff"), 3, 0, 0, 0, 2, 'a', 255)
	ended(t, new(tlv.Writer).Bytes(4, nil).Bytes(4, []byte{9}), 4, 0, 0, 0, 0, 4, 0, 0, 0, 1, 9)
	w := new(tlv.Writer)
	if w.Bytes(1, nil) != w || w.Text(1, "") != w || w.Number(1, 0) != w || w.Flag(1, true) != w || w.List(1, 0, nil) != w {
		t.Error("a call does not answer the writer")
	}
}

func TestP2_1Lengths(t *testing.T) {
	long := make([]byte, api.MaxValue)
	long[0], long[len(long)-1] = 7, 8
	b, e := new(tlv.Writer).Bytes(1, long).End()
	if e != api.OK || len(b) != api.MaxValue+5 || !bytes.Equal(b[:6], []byte{1, 0, 0x40, 0, 0, 7}) || b[len(b)-1] != 8 {
		t.Errorf("%d %v", len(b), e)
	}
	if b, e = new(tlv.Writer).Bytes(1, make([]byte, 0x010203)).End(); e != api.OK || !bytes.Equal(b[:5], []byte{1, 0, 1, 2, 3}) {
		t.Errorf("%v %v", b[:5], e)
	}
	failed(t, new(tlv.Writer).Bytes(1, append(long, 0)), api.ErrLong)
	failed(t, new(tlv.Writer).Text(1, string(append(long, 0))), api.ErrLong)
	failed(t, new(tlv.Writer).Bytes(0, append(long, 0)), api.ErrLong)
	fill := func(n int) func(w *tlv.Writer, i int) {
		return func(w *tlv.Writer, i int) { w.Bytes(1, make([]byte, n)) }
	}
	if b, e = new(tlv.Writer).List(1, 2, fill(api.MaxValue/2-5)).End(); e != api.OK || len(b) != api.MaxValue+5 {
		t.Errorf("%d %v", len(b), e)
	}
	failed(t, new(tlv.Writer).List(1, 3, fill(api.MaxValue/3)), api.ErrLong)
	failed(t, new(tlv.Writer).List(0, 3, fill(api.MaxValue/3)), api.ErrLong)
	failed(t, new(tlv.Writer).List(1, 1, fill(api.MaxValue)), api.ErrLong)
	failed(t, new(tlv.Writer).List(1, 1, fill(api.MaxValue+1)), api.ErrLong)
}

func TestP2_1Lists(t *testing.T) {
	var at []int
	w := new(tlv.Writer).Flag(1, true).List(9, 3, func(w *tlv.Writer, i int) {
		at = append(at, i)
		w.Bytes(byte(i+1), []byte{byte(i), byte(i)}[:i/2*2])
	})
	ended(t, w, 1, 0, 0, 0, 1, 1, 9, 0, 0, 0, 17, 1, 0, 0, 0, 0, 2, 0, 0, 0, 0, 3, 0, 0, 0, 2, 2, 2)
	if !slices.Equal(at, []int{0, 1, 2}) {
		t.Error(at)
	}
	ended(t, new(tlv.Writer).List(5, 0, nil), 5, 0, 0, 0, 0)
	ended(t, new(tlv.Writer).List(5, 0, func(*tlv.Writer, int) { t.Error("called for no value") }), 5, 0, 0, 0, 0)
	ended(t, new(tlv.Writer).List(5, 1, func(w *tlv.Writer, _ int) {
		w.List(6, 1, func(w *tlv.Writer, _ int) { w.Flag(7, true) })
	}), 5, 0, 0, 0, 11, 6, 0, 0, 0, 6, 7, 0, 0, 0, 1, 1)
}

func TestP2_1Wrong(t *testing.T) {
	none := func(*tlv.Writer, int) {}
	one := func(w *tlv.Writer, _ int) { w.Flag(1, true) }
	two := func(w *tlv.Writer, _ int) { w.Flag(1, true).Flag(1, true) }
	for i, w := range []*tlv.Writer{
		new(tlv.Writer).Bytes(0, nil),
		new(tlv.Writer).Text(0, "a"),
		new(tlv.Writer).Number(0, 1),
		new(tlv.Writer).Flag(0, true),
		new(tlv.Writer).List(0, 1, one),
		new(tlv.Writer).List(1, -1, one),
		new(tlv.Writer).List(1, -1<<62, nil),
		new(tlv.Writer).List(1, 1, nil),
		new(tlv.Writer).List(1, 1, none),
		new(tlv.Writer).List(1, 2, two),
		new(tlv.Writer).List(1, 2, func(w *tlv.Writer, i int) { w.List(1, i, none) }),
		new(tlv.Writer).List(1, 1, func(w *tlv.Writer, _ int) { w.Flag(0, true) }),
		new(tlv.Writer).List(1, 2, func(w *tlv.Writer, i int) { w.Flag(byte(1-i), true) }),
	} {
		if b, e := w.End(); e != api.ErrArg || len(b) != 0 {
			t.Errorf("%d: %v %v", i, b, e)
		}
	}
	// Two at the one call and none at the other one are one a time no more.
	failed(t, new(tlv.Writer).List(1, 2, func(w *tlv.Writer, i int) {
		if i == 0 {
			w.Flag(1, true).Flag(1, true)
		}
	}), api.ErrArg)
}

func TestP2_1FirstErrorStays(t *testing.T) {
	long := make([]byte, api.MaxValue+1)
	w := new(tlv.Writer).Flag(1, true).Flag(0, true).Bytes(1, long).Flag(2, true)
	failed(t, w, api.ErrArg)
	failed(t, w.List(1, 1, func(w *tlv.Writer, _ int) { w.Flag(1, true) }), api.ErrArg)
	failed(t, new(tlv.Writer).Bytes(1, long).Flag(0, true), api.ErrLong)
}

func TestP2_1End(t *testing.T) {
	w := new(tlv.Writer).Flag(1, true)
	a, _ := w.End()
	a[0] = 99
	ended(t, w, 1, 0, 0, 0, 1, 1)
	ended(t, w.Flag(2, false), 1, 0, 0, 0, 1, 1, 2, 0, 0, 0, 1, 0)
	var none *tlv.Writer
	if none.Bytes(1, nil) != nil || none.Text(1, "") != nil || none.Number(1, 1) != nil || none.Flag(1, true) != nil || none.List(1, 1, nil) != nil {
		t.Error("a nil writer answers one")
	}
	failed(t, none, api.ErrNil)
	b := []byte{5}
	w = new(tlv.Writer).Bytes(1, b)
	b[0] = 6
	ended(t, w, 1, 0, 0, 0, 1, 5)
}

func TestP2_2Taken(t *testing.T) {
	b, _ := new(tlv.Writer).Bytes(1, []byte{1, 2}).Text(2, "ab\xff").Number(3, 1<<63+5).Flag(4, true).Flag(5, false).Bytes(6, nil).End()
	r := tlv.Read(b)
	for range 2 {
		if r.Tag() != 1 {
			t.Error(r.Tag())
		}
	}
	if x := r.Bytes(1); !bytes.Equal(x, []byte{1, 2}) {
		t.Error(x)
	}
	if x := r.Text(2); x != "ab\xff" {
		t.Errorf("%x", x)
	}
	if x := r.Number(3); x != 1<<63+5 {
		t.Error(x)
	}
	if !r.Flag(4) || r.End() != api.ErrBytes || r.Flag(5) || r.Tag() != 6 {
		t.Error("flags")
	}
	if x := r.Bytes(6); len(x) != 0 || r.Tag() != 0 || r.End() != api.OK || r.End() != api.OK {
		t.Error(x, r.End())
	}
	if r = tlv.Read(nil); r == nil || r.Tag() != 0 || r.End() != api.OK {
		t.Error("nothing is no row of values")
	}
}

func TestP2_2Fails(t *testing.T) {
	flags := []byte{1, 0, 0, 0, 1, 1, 2, 0, 0, 0, 1, 1}
	for i, take := range []func(r *tlv.Reader) bool{
		func(r *tlv.Reader) bool { return len(r.Bytes(2)) == 0 },
		func(r *tlv.Reader) bool { return r.Text(2) == "" },
		func(r *tlv.Reader) bool { return r.Number(1) == 0 },
		func(r *tlv.Reader) bool { return r.Number(2) == 0 },
		func(r *tlv.Reader) bool { return !r.Flag(2) },
		func(r *tlv.Reader) bool { return !r.Flag(0) },
		func(r *tlv.Reader) bool { return !r.List(2, nil) },
		func(r *tlv.Reader) bool { r.Fail(); return true },
	} {
		r := tlv.Read(flags)
		if !take(r) || r.End() != api.ErrBytes || r.Tag() != 0 {
			t.Errorf("%d: %v %d", i, r.End(), r.Tag())
		}
		if len(r.Bytes(1)) != 0 || r.Text(1) != "" || r.Number(1) != 0 || r.Flag(1) || r.List(1, nil) || r.End() != api.ErrBytes {
			t.Errorf("%d: it takes something behind what failed", i)
		}
	}
}

func TestP2_2WrongBytes(t *testing.T) {
	for _, b := range [][]byte{
		{1}, {1, 0, 0, 0}, {1, 0, 0, 0, 1}, {0, 0, 0, 0, 0}, {0, 0, 0, 0, 1, 1}, {1, 0, 0, 0, 2, 1}, {1, 255, 255, 255, 255, 1}, {1, 128, 0, 0, 0}, {1, 0, 0x40, 0, 1, 0},
	} {
		r := tlv.Read(b)
		if r.End() != api.ErrBytes {
			t.Errorf("%v: %v", b, r.End())
		}
		if x := r.Bytes(b[0]); len(x) != 0 || r.End() != api.ErrBytes {
			t.Errorf("%v: %v", b, x)
		}
	}
	long := append([]byte{1, 0, 0x40, 0, 1}, make([]byte, api.MaxValue+1)...)
	if r := tlv.Read(long); len(r.Bytes(1)) != 0 || r.End() != api.ErrBytes {
		t.Error("a value of too many bytes was taken")
	}
	long = append([]byte{1, 0, 0x40, 0, 0}, make([]byte, api.MaxValue)...)
	if r := tlv.Read(long); len(r.Bytes(1)) != api.MaxValue || r.End() != api.OK {
		t.Error("a value of as many bytes as may be was not taken")
	}
	for _, n := range []int{0, 1, 7, 9} {
		b, _ := new(tlv.Writer).Bytes(1, make([]byte, n)).End()
		if r := tlv.Read(b); r.Number(1) != 0 || r.End() != api.ErrBytes {
			t.Errorf("a number of %d bytes", n)
		}
	}
	for _, v := range [][]byte{nil, {2}, {255}, {0, 0}, {1, 1}, {0, 1}} {
		b, _ := new(tlv.Writer).Bytes(1, v).End()
		if r := tlv.Read(b); r.Flag(1) || r.End() != api.ErrBytes {
			t.Errorf("a yes or no of %v", v)
		}
	}
}

// listOf is a list of tag 3 whose bytes these are, and a flag behind it.
func listOf(in ...byte) []byte {
	b, _ := new(tlv.Writer).Bytes(3, in).Flag(4, true).End()
	return b
}

func TestP2_2Lists(t *testing.T) {
	in, _ := new(tlv.Writer).Number(1, 7).Number(1, 8).Number(1, 9).End()
	var got []uint64
	r := tlv.Read(listOf(in...))
	is := r.List(3, func(r *tlv.Reader) bool {
		got = append(got, r.Number(1))
		return true
	})
	if !is || !slices.Equal(got, []uint64{7, 8, 9}) || !r.Flag(4) || r.End() != api.OK {
		t.Error(is, got, r.End())
	}
	r = tlv.Read(listOf(in...))
	many := 0
	is = r.List(3, func(r *tlv.Reader) bool {
		many++
		for r.Tag() != 0 {
			r.Number(1)
		}
		return true
	})
	if !is || many != 1 || r.End() != api.ErrBytes || r.Tag() != 4 {
		t.Error(is, many, r.End())
	}
	r = tlv.Read(listOf())
	if !r.List(3, func(*tlv.Reader) bool { t.Error("called for no value"); return false }) || !r.Flag(4) || r.End() != api.OK {
		t.Error(r.End())
	}
	r = tlv.Read(listOf())
	if !r.List(3, nil) || !r.Flag(4) || r.End() != api.OK {
		t.Error(r.End())
	}
}

func TestP2_2ListFails(t *testing.T) {
	in, _ := new(tlv.Writer).Flag(1, true).Flag(1, false).End()
	all := func(r *tlv.Reader) bool { r.Flag(1); return true }
	for i, x := range []struct {
		b    []byte
		tag  byte
		take func(r *tlv.Reader) bool
	}{
		{listOf(in...), 3, nil},
		{listOf(in...), 2, all},
		{listOf(in...), 3, func(r *tlv.Reader) bool { r.Flag(1); return false }},
		{listOf(in...), 3, func(r *tlv.Reader) bool { r.Flag(1); r.Flag(1); return false }},
		{listOf(in...), 3, func(r *tlv.Reader) bool { return true }},
		{listOf(in...), 3, func(r *tlv.Reader) bool { return false }},
		{listOf(in...), 3, func(r *tlv.Reader) bool { r.Flag(2); return true }},
		{listOf(in...), 3, func(r *tlv.Reader) bool { r.Flag(1); r.Flag(1); r.Fail(); return true }},
		{listOf(append(in, 1)...), 3, all},
		{listOf(append(in, 1, 0, 0, 0, 2, 1)...), 3, all},
		{listOf(0, 0, 0, 0, 0), 3, all},
		{listOf(5), 3, nil},
		{[]byte{3, 0, 0, 0, 1}, 3, all},
	} {
		r := tlv.Read(x.b)
		if r.List(x.tag, x.take) || r.End() != api.ErrBytes || r.Tag() != 0 {
			t.Errorf("%d: %v %d", i, r.End(), r.Tag())
		}
	}
}

func TestP2_2Stops(t *testing.T) {
	in, _ := new(tlv.Writer).Flag(1, true).Flag(1, true).Flag(1, true).End()
	many := 0
	tlv.Read(listOf(in...)).List(3, func(r *tlv.Reader) bool { many++; r.Flag(1); return many < 2 })
	if many != 2 {
		t.Errorf("called %d times", many)
	}
	many = 0
	tlv.Read(listOf(in...)).List(3, func(r *tlv.Reader) bool { many++; r.Flag(9); return true })
	if many != 1 {
		t.Errorf("called %d times", many)
	}
}

func TestP2_2NilAndZero(t *testing.T) {
	for i, r := range []*tlv.Reader{nil, {}} {
		r.Fail()
		if r.Tag() != 0 || len(r.Bytes(1)) != 0 || r.Text(1) != "" || r.Number(1) != 0 || r.Flag(1) || r.List(1, nil) || r.End() != api.ErrNil {
			t.Errorf("%d: %v", i, r.End())
		}
	}
}

func TestP2_2Copies(t *testing.T) {
	b := []byte{1, 0, 0, 0, 1, 7, 1, 0, 0, 0, 1, 8}
	r := tlv.Read(b)
	b[5], b[11] = 99, 99
	x := r.Bytes(1)
	if !bytes.Equal(x, []byte{7}) {
		t.Error(x)
	}
	_ = append(x, 99, 99, 99, 99, 99, 99)
	if y := r.Bytes(1); !bytes.Equal(y, []byte{8}) {
		t.Error(y)
	}
}

func TestP2_3All(t *testing.T) {
	b, _ := new(tlv.Writer).Text(1, "a").Text(255, "").Text(3, "bc").End()
	over := tlv.All(append(b, 4, 0, 0, 0, 2, 1))
	for range 2 {
		var tags []byte
		var texts []string
		for tag, v := range over {
			tags, texts = append(tags, tag), append(texts, string(v))
			if len(v) > 0 {
				v[0] = 'z'
			}
		}
		if !bytes.Equal(tags, []byte{1, 255, 3}) || !slices.Equal(texts, []string{"a", "", "bc"}) {
			t.Error(tags, texts)
		}
	}
	many := 0
	for range over {
		many++
		break
	}
	if many != 1 {
		t.Error(many)
	}
	for _, none := range [][]byte{nil, {0, 0, 0, 0, 0}, {1, 0, 0, 0}, {1, 1, 0, 0, 0}} {
		for tag := range tlv.All(none) {
			t.Error(tag, "of", none)
		}
	}
	kept := []byte{1, 0, 0, 0, 1, 7}
	over = tlv.All(kept)
	kept[0] = 2
	for tag := range over {
		if tag != 1 {
			t.Error("what was handed in was kept")
		}
	}
}

func TestP2_4RowsOfBytes(t *testing.T) {
	// Of all short rows of a few bytes: what is read as values has just these bytes.
	some := []byte{0, 1, 2, 255}
	for n := range 4 * 4 * 4 * 4 * 4 * 4 * 4 {
		var b []byte
		for x := n; x > 0; x /= 4 {
			b = append(b, some[x%4])
		}
		w := new(tlv.Writer)
		for tag, v := range tlv.All(b) {
			w.Bytes(tag, v)
		}
		put, e := w.End()
		r := tlv.Read(b)
		for r.Tag() != 0 {
			r.Bytes(r.Tag())
		}
		if e != api.OK || !bytes.HasPrefix(b, put) || (r.End() == api.OK) != (len(put) == len(b)) {
			t.Fatalf("%v: %v %v %v", b, put, e, r.End())
		}
	}
}
