package entry_test

import (
	"bytes"
	"slices"
	"strings"
	"testing"

	"blazon/api"
	"blazon/entry"
	"blazon/tlv"
)

// at is an attribute.
func at(t, v string) api.Attr { return api.Attr{Type: t, Value: v} }

// of is an entry.
func of(name string, l ...api.Attr) api.Entry { return api.Entry{Name: name, Attrs: l} }

// many are so many attributes that rise.
func many(n int) []api.Attr {
	var l []api.Attr
	for i := range n {
		l = append(l, at("t", string(rune('0'+i/10))+string(rune('0'+i%10))))
	}
	return l
}

func TestP19_1MayName(t *testing.T) {
	for s, want := range map[string]bool{
		"": true, "a": true, "\x00\n": true, "\u20ac": true, "\ufffd": true, strings.Repeat("a", 1000): true, strings.Repeat("\u20ac", 333): true,
		strings.Repeat("a", 1001): false, strings.Repeat("\u20ac", 334): false, "\xff": false, "a\xc0\x80": false, "\xed\xa0\x80": false,
	} {
		if entry.MayName(s) != want || entry.MayAttr(at("a", s)) != want || entry.MayEntry(of(s)) != want {
			t.Errorf("%.20q: %v", s, entry.MayName(s))
		}
	}
}

func TestP19_1MayAttr(t *testing.T) {
	for s, want := range map[string]bool{
		"a": true, "z": true, "a0": true, "a9": true, "a-": true, "a--9z": true, strings.Repeat("a", 32): true, "m" + strings.Repeat("-", 31): true,
		"": false, strings.Repeat("a", 33): false, "A": false, "aB": false, "0": false, "0a": false, "-": false, "-a": false, "a b": false, "a_": false, "a\u00e9": false, "a{": false, "a`": false, "a/": false, "a:": false, "a\x00": false, " a": false,
	} {
		if entry.MayAttr(at(s, "x")) != want {
			t.Errorf("%q: %v", s, !want)
		}
	}
}

func TestP19_1MayAttrs(t *testing.T) {
	for i, l := range [][]api.Attr{
		nil, {}, {at("a", "")}, {at("a", "1"), at("a", "2")}, {at("a", "2"), at("b", "1")}, {at("a", "b"), at("a", "ba")}, {at("a", "1"), at("a-", "0"), at("a0", "0"), at("aa", "0")}, many(50),
	} {
		if !entry.MayAttrs(l) || !entry.MayEntry(of("x", l...)) {
			t.Errorf("%d: %v", i, l)
		}
	}
	for i, l := range [][]api.Attr{
		{at("", "")}, {at("a", "\xff")}, {at("a", "1"), at("a", "1")}, {at("a", "2"), at("a", "1")}, {at("b", "1"), at("a", "2")}, {at("a", "1"), at("b", "1"), at("a", "2")}, {at("aa", "1"), at("a", "1")}, {at("a", "1"), at("B", "1")}, many(51),
	} {
		if entry.MayAttrs(l) || entry.MayEntry(of("x", l...)) {
			t.Errorf("%d: %v", i, l)
		}
	}
}

// small is an entry, and its bytes.
var (
	small      = of("N", at("a", ""), at("bc", "v"))
	smallBytes = []byte("\x01\x00\x00\x00\x01N\x02\x00\x00\x00\x22" +
		"\x03\x00\x00\x00\x0b\x01\x00\x00\x00\x01a\x02\x00\x00\x00\x00" +
		"\x03\x00\x00\x00\x0d\x01\x00\x00\x00\x02bc\x02\x00\x00\x00\x01v")
)

func TestP19_2Bytes(t *testing.T) {
	if b, e := entry.Bytes(small); !bytes.Equal(b, smallBytes) || e != api.OK {
		t.Errorf("%x %v", b, e)
	}
	if b, e := entry.Bytes(of("")); !bytes.Equal(b, []byte{1, 0, 0, 0, 0, 2, 0, 0, 0, 0}) || e != api.OK {
		t.Errorf("%x %v", b, e)
	}
	for _, x := range []api.Entry{of("\xff"), of(strings.Repeat("a", 1001)), of("a", at("b", ""), at("a", "")), of("a", many(51)...), of("a", at("A", ""))} {
		if b, e := entry.Bytes(x); len(b) != 0 || e != api.ErrArg {
			t.Errorf("%.60v: %x %v", x, b, e)
		}
	}
}

func TestP19_2Of(t *testing.T) {
	long := of(strings.Repeat("\u20ac", 333))
	for i := range 50 {
		long.Attrs = append(long.Attrs, at(strings.Repeat("t", 32), string(rune('0'+i))+strings.Repeat("v", 990)))
	}
	for _, x := range []api.Entry{small, of(""), of("", at("a", "")), of("x", many(50)...), long} {
		b, e := entry.Bytes(x)
		if e != api.OK {
			t.Fatal(e)
		}
		if got, e := entry.Of(b); !entry.Same(got, x) || e != api.OK {
			t.Errorf("%.60v: %.60v %v", x, got, e)
		}
	}
	// Bytes that differ in one byte, or in how many they are, are none's, or another one's.
	for i := range smallBytes {
		for _, n := range []byte{0, 1, 2, 255} {
			b := slices.Clone(smallBytes)
			b[i] ^= n
			x, e := entry.Of(b)
			if e != api.OK {
				if e != api.ErrBytes || x.Name != "" || len(x.Attrs) != 0 {
					t.Errorf("%x: %v %v", b, x, e)
				}
				continue
			}
			if again, e := entry.Bytes(x); !bytes.Equal(again, b) || e != api.OK {
				t.Errorf("%x: %v, %x", b, x, again)
			}
		}
		if x, e := entry.Of(smallBytes[:i]); e != api.ErrBytes {
			t.Errorf("%d bytes: %v %v", i, x, e)
		}
	}
	if x, e := entry.Of(append(slices.Clone(smallBytes), 0)); e != api.ErrBytes {
		t.Error(x, e)
	}
}

// list is the bytes of an entry whose attributes' bytes these are.
func list(l ...[]byte) []byte {
	b, _ := new(tlv.Writer).Text(1, "").List(2, len(l), func(w *tlv.Writer, i int) { w.Bytes(3, l[i]) }).End()
	return b
}

// pair is the bytes of an attribute.
func pair(t, v string) []byte {
	b, _ := new(tlv.Writer).Text(1, t).Text(2, v).End()
	return b
}

func TestP19_2OfWrong(t *testing.T) {
	if x, e := entry.Of(list(pair("a", "1"), pair("a", "2"))); len(x.Attrs) != 2 || e != api.OK {
		t.Error(x, e)
	}
	var fifty [][]byte
	for _, a := range many(51) {
		fifty = append(fifty, pair(a.Type, a.Value))
	}
	one, _ := new(tlv.Writer).Text(1, "a").End()
	three, _ := new(tlv.Writer).Text(1, "a").Text(2, "").Text(2, "").End()
	four, _ := new(tlv.Writer).Text(1, "a").Text(2, "").Text(1, "b").Text(2, "").End()
	turned, _ := new(tlv.Writer).Text(2, "a").Text(1, "").End()
	other, _ := new(tlv.Writer).Text(1, "").List(2, 1, func(w *tlv.Writer, i int) { w.Bytes(2, pair("a", "1")) }).End()
	noName, _ := new(tlv.Writer).List(2, 0, nil).End()
	noList, _ := new(tlv.Writer).Text(1, "a").End()
	more, _ := new(tlv.Writer).Text(1, "").List(2, 0, nil).Text(3, "").End()
	ill, _ := new(tlv.Writer).Text(1, "\xff").List(2, 0, nil).End()
	for i, b := range [][]byte{
		list(pair("a", "2"), pair("a", "1")), list(pair("a", "1"), pair("a", "1")), list(pair("b", "1"), pair("a", "1")), list(fifty...), list(pair("A", "")), list(pair("", "")), list(pair("a", "\xff")), list(pair("a", strings.Repeat("a", 1001))),
		list(nil), list(one), list(three), list(four), list(turned), list([]byte{1}), other, noName, noList, more, ill, nil,
	} {
		if x, e := entry.Of(b); e != api.ErrBytes || x.Name != "" || len(x.Attrs) != 0 {
			t.Errorf("%d: %v %v", i, x, e)
		}
	}
	if x, e := entry.Of(list(fifty[:50]...)); len(x.Attrs) != 50 || e != api.OK {
		t.Error(e)
	}
}

func TestP19_2PutTake(t *testing.T) {
	l := many(3)
	w := new(tlv.Writer)
	entry.Put(w, 9, l)
	entry.Put(w, 8, nil)
	b, e := w.End()
	if e != api.OK || b[0] != 9 {
		t.Fatal(b, e)
	}
	r := tlv.Read(b)
	if got := entry.Take(r, 9); !slices.Equal(got, l) || r.End() != api.ErrBytes {
		t.Error(got)
	}
	if got := entry.Take(r, 8); len(got) != 0 || r.End() != api.OK {
		t.Error(got, r.End())
	}
	r = tlv.Read(b)
	if got := entry.Take(r, 8); len(got) != 0 || r.End() != api.ErrBytes {
		t.Error(got, r.End())
	}
	// What may not be can be put, but not taken.
	for _, l := range [][]api.Attr{{at("b", ""), at("a", "")}, many(51), {at("A", "")}} {
		w = new(tlv.Writer)
		entry.Put(w, 1, l)
		if b, e = w.End(); e != api.OK {
			t.Error(e)
		}
		r = tlv.Read(b)
		if got := entry.Take(r, 1); len(got) != 0 || r.End() != api.ErrBytes {
			t.Error(got, r.End())
		}
	}
	entry.Put(nil, 1, l)
	if got := entry.Take(nil, 1); len(got) != 0 {
		t.Error(got)
	}
	w = new(tlv.Writer)
	entry.Put(w, 0, l)
	if _, e := w.End(); e != api.ErrArg {
		t.Error(e)
	}
}

func TestP19_3CompareSorted(t *testing.T) {
	l := []api.Attr{at("a", ""), at("a", "1"), at("a", "10"), at("a", "2"), at("a-", ""), at("aa", ""), at("b", ""), at("b", "\xff")}
	for i, x := range l {
		for j, y := range l {
			want := 0
			if i < j {
				want = -1
			} else if i > j {
				want = 1
			}
			if got := entry.Compare(x, y); got != want {
				t.Errorf("%v %v: %d", x, y, got)
			}
		}
	}
	var mixed []api.Attr
	for i := range 2 * len(l) {
		mixed = append(mixed, l[i*5%len(l)])
	}
	kept := slices.Clone(mixed)
	if got := entry.Sorted(mixed); !slices.Equal(got, l) || !slices.Equal(mixed, kept) {
		t.Error(got)
	}
	if got := entry.Sorted(nil); len(got) != 0 {
		t.Error(got)
	}
	one := []api.Attr{at("a", "")}
	entry.Sorted(one)[0].Type = "z"
	if one[0].Type != "a" {
		t.Error("an answer shares memory with what was handed in")
	}
}

func TestP19_3Change(t *testing.T) {
	for _, x := range []struct{ l, by, want []api.Attr }{
		{nil, nil, nil},
		{[]api.Attr{at("cn", "a"), at("sn", "b")}, []api.Attr{at("cn", "c"), at("sn", "")}, []api.Attr{at("cn", "c")}},
		{[]api.Attr{at("a", "1")}, nil, []api.Attr{at("a", "1")}},
		{nil, []api.Attr{at("b", "2"), at("a", "1"), at("b", "1")}, []api.Attr{at("a", "1"), at("b", "1"), at("b", "2")}},
		{[]api.Attr{at("a", "1"), at("a", "2"), at("b", "1")}, []api.Attr{at("a", "3")}, []api.Attr{at("a", "3"), at("b", "1")}},
		{[]api.Attr{at("a", "1"), at("a", "2"), at("b", "1")}, []api.Attr{at("a", "")}, []api.Attr{at("b", "1")}},
		{[]api.Attr{at("a", "")}, []api.Attr{at("b", "")}, []api.Attr{at("a", "")}},
		{nil, []api.Attr{at("a", "1"), at("a", "1"), at("a", "")}, []api.Attr{at("a", "1")}},
		{many(50), []api.Attr{at("t", "x")}, []api.Attr{at("t", "x")}},
		{many(49), []api.Attr{at("a", "x"), at("a", "x"), at("b", "")}, append([]api.Attr{at("a", "x")}, many(49)...)},
		{[]api.Attr{at("t", "x")}, many(50), many(50)},
	} {
		l, by := slices.Clone(x.l), slices.Clone(x.by)
		got, e := entry.Change(l, by)
		if !slices.Equal(got, x.want) || e != api.OK {
			t.Errorf("%v by %v: %v %v", x.l, x.by, got, e)
		}
		if again, e := entry.Change(got, by); !slices.Equal(again, got) || e != api.OK {
			t.Errorf("%v by %v again: %v %v", got, x.by, again, e)
		}
		if len(got) > 0 {
			got[0].Type = "z"
		}
		if !slices.Equal(l, x.l) || !slices.Equal(by, x.by) {
			t.Error("what was handed in was changed")
		}
	}
	bad := []api.Attr{at("b", ""), at("a", "")}
	for i, x := range []struct {
		l, by []api.Attr
		want  api.Errno
	}{
		{bad, nil, api.ErrArg}, {many(51), nil, api.ErrArg}, {[]api.Attr{at("A", "")}, nil, api.ErrArg},
		{nil, append(many(50), at("a", "")), api.ErrArg}, {nil, []api.Attr{at("A", "")}, api.ErrArg}, {nil, []api.Attr{at("a", "\xff")}, api.ErrArg}, {nil, []api.Attr{at("a", "1"), at("", "")}, api.ErrArg},
		{many(50), []api.Attr{at("a", "1")}, api.ErrFull}, {many(30), func() (l []api.Attr) {
			for _, a := range many(21) {
				l = append(l, at("u", a.Value))
			}
			return l
		}(), api.ErrFull}, {many(50), []api.Attr{at("a", "1"), at("A", "1")}, api.ErrArg},
	} {
		if got, e := entry.Change(x.l, x.by); len(got) != 0 || e != x.want {
			t.Errorf("%d: %v %v", i, got, e)
		}
	}
	if got, e := entry.Change(nil, bad); len(got) != 0 || e != api.OK {
		t.Error(got, e)
	}
}

func TestP19_3HasSameCopy(t *testing.T) {
	l := many(5)
	if !entry.Has(l, l[4]) || entry.Has(l, at("t", "")) || entry.Has(l, at("u", "00")) || entry.Has(nil, at("", "")) {
		t.Error("has")
	}
	a, b := of("x", l...), of("x", slices.Clone(l)...)
	if !entry.Same(a, b) || !entry.Same(of(""), api.Entry{Attrs: []api.Attr{}}) || entry.Same(a, of("X", l...)) || entry.Same(a, of("x", l[:4]...)) || entry.Same(a, of("x", l[1], l[0])) {
		t.Error("same")
	}
	b.Attrs[4].Value = "z"
	if entry.Same(a, b) {
		t.Error("same")
	}
	c := entry.Copy(a)
	if !entry.Same(a, c) {
		t.Error(c)
	}
	c.Attrs[0].Value = "z"
	if a.Attrs[0].Value == "z" {
		t.Error("a copy shares memory")
	}
}

func TestP19_4Unlike(t *testing.T) {
	seen := map[string]api.Entry{}
	for _, name := range []string{"", "a", "b"} {
		for _, x := range [][]api.Attr{nil, {at("a", "")}, {at("a", "b")}, {at("ab", "")}, {at("a", ""), at("b", "")}, {at("a", "1"), at("a", "2")}} {
			b, e := entry.Bytes(of(name, x...))
			if other, is := seen[string(b)]; is || e != api.OK {
				t.Errorf("%v, %v: the same bytes", of(name, x...), other)
			}
			seen[string(b)] = of(name, x...)
		}
	}
}
