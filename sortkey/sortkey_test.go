package sortkey_test

import (
	"bytes"
	"slices"
	"testing"

	"blazon/api"
	"blazon/decomp"
	"blazon/ducet"
	"blazon/sortkey"
	"blazon/ucd"
)

const lines = "00E9;E ACUTE;Ll;0;;0065 0301;;;;;;;;;\n" +
	"0301;ACUTE;Mn;230;;;;;;;;;;;\n" +
	"0323;DOT BELOW;Mn;220;;;;;;;;;;;\n"

const weights = "0020 ; [*0209.0020.0002]\n" +
	"0041 ; [.1C47.0020.0008]\n" +
	"0061 ; [.1C47.0020.0002]\n" +
	"0062 ; [.1C60.0020.0002]\n" +
	"0063 ; [.1C7A.0020.0002]\n" +
	"0063 0068 ; [.1C7B.0020.0002]\n" +
	"0065 ; [.1CAA.0020.0002]\n" +
	"0300 ; [.0000.0000.0000]\n" +
	"0301 ; [.0000.0024.0002]\n" +
	"0323 ; [.0000.002D.0002]\n"

// parts are the data and the table of the lines.
func parts(t *testing.T) (*ucd.Data, *ducet.Table) {
	t.Helper()
	d, e := ucd.Of(lines, "")
	x, e2 := ducet.New(weights)
	if e != api.OK || e2 != api.OK {
		t.Fatal(e, e2)
	}
	return d, x
}

// collator is a collator of them.
func collator(t *testing.T, shifted bool, levels int) *sortkey.Collator {
	t.Helper()
	d, x := parts(t)
	c, e := sortkey.New(d, x, api.Options{Shifted: shifted, Levels: levels})
	if c == nil || e != api.OK {
		t.Fatal(e)
	}
	return c
}

func TestP16_1New(t *testing.T) {
	d, x := parts(t)
	for _, q := range []struct {
		d    *ucd.Data
		t    *ducet.Table
		o    api.Options
		want api.Errno
	}{
		{nil, x, api.Options{Levels: 3}, api.ErrNil},
		{d, nil, api.Options{Levels: 3}, api.ErrNil},
		{nil, nil, api.Options{}, api.ErrNil},
		{d, x, api.Options{}, api.ErrArg},
		{d, x, api.Options{Levels: 5}, api.ErrArg},
		{d, x, api.Options{Levels: -1, Shifted: true}, api.ErrArg},
	} {
		if c, e := sortkey.New(q.d, q.t, q.o); c != nil || e != q.want {
			t.Errorf("%v: %v, not %v", q.o, e, q.want)
		}
	}
	for levels := 1; levels <= 4; levels++ {
		o := api.Options{Shifted: levels%2 == 0, Levels: levels}
		c, e := sortkey.New(d, x, o)
		if e != api.OK || c.Options() != o || c.Data() != d || c.Table() != x {
			t.Errorf("%v: %v", o, e)
		}
	}
}

func TestP16_1Key(t *testing.T) {
	for _, q := range []struct {
		text    string
		shifted bool
		levels  int
		want    string
	}{
		{"a", false, 3, "\x1c\x47\x00\x00\x00\x20\x00\x00\x00\x02"},
		{"a", false, 1, "\x1c\x47"},
		{"a", false, 2, "\x1c\x47\x00\x00\x00\x20"},
		{"a", false, 4, "\x1c\x47\x00\x00\x00\x20\x00\x00\x00\x02\x00\x00"},
		{"", false, 1, ""},
		{"", false, 3, "\x00\x00\x00\x00"},
		{"\u0300", false, 3, "\x00\x00\x00\x00"},
		{"aA", false, 3, "\x1c\x47\x1c\x47\x00\x00\x00\x20\x00\x20\x00\x00\x00\x02\x00\x08"},
		{"\u00e9", false, 3, "\x1c\xaa\x00\x00\x00\x20\x00\x24\x00\x00\x00\x02\x00\x02"},
		{"e\u0301", false, 3, "\x1c\xaa\x00\x00\x00\x20\x00\x24\x00\x00\x00\x02\x00\x02"},
		{"ch", false, 1, "\x1c\x7b"},
		{" a", false, 2, "\x02\x09\x1c\x47\x00\x00\x00\x20\x00\x20"},
		{" \u0301a", true, 4, "\x1c\x47\x00\x00\x00\x20\x00\x00\x00\x02\x00\x00\x02\x09\xff\xff"},
		{" a", true, 3, "\x1c\x47\x00\x00\x00\x20\x00\x00\x00\x02"},
		{"x", false, 2, "\xfb\xc0\x80\x78\x00\x00\x00\x20"},
	} {
		c := collator(t, q.shifted, q.levels)
		l := []rune(q.text)
		if key := c.Key(l...); string(key) != q.want {
			t.Errorf("%q, shifted %v, %d levels: %x, not %x", q.text, q.shifted, q.levels, key, q.want)
		}
		if string(l) != q.text {
			t.Error("what was handed in was changed")
		}
	}
	if key := collator(t, false, 3).Key(-1, 0xd800, 0x110000); !bytes.Equal(key, make([]byte, 4)) {
		t.Errorf("%x", key)
	}
}

// rising are texts by rising places, 3 levels, not shifted.
var rising = []string{"", "\u0300", "\u0300\u0300", "\u0301", " ", " a", "a", "A", "a\u0301", "A\u0301", "a a", "aa", "aA", "Aa", "ab", "b", "c", "ca", "ch", "cha", "e", "e\u0301", "f"}

func TestP16_2ComparePlace(t *testing.T) {
	c := collator(t, false, 3)
	for i, x := range rising {
		for j, y := range rising {
			sign := 0
			if i < j {
				sign = -1
			} else if i > j {
				sign = 1
			}
			a, b := []rune(x), []rune(y)
			if got := c.Place(a, b); got != sign {
				t.Errorf("%q %q: %d", x, y, got)
			}
			if got := c.Compare(a, b); got != bytes.Compare(c.Key(a...), c.Key(b...)) {
				t.Errorf("%q %q: %d", x, y, got)
			}
		}
	}
	for _, q := range []struct {
		a, b           []rune
		compare, place int
	}{
		{[]rune("\u00e9"), []rune("e\u0301"), 0, 0},
		{nil, []rune{0x300}, 0, -1},
		{[]rune{0x300}, []rune{0x300, 0x300}, 0, -1},
		{[]rune{'a', -1}, []rune{'a'}, 0, 1},
		{[]rune{-1}, []rune{-2}, 0, 1},
		{[]rune{'a', 0x301, 0x323}, []rune{'a', 0x323, 0x301}, 0, 0},
		{[]rune("a"), []rune("A"), -1, -1},
	} {
		if x, y := c.Compare(q.a, q.b), c.Place(q.a, q.b); x != q.compare || y != q.place {
			t.Errorf("%x %x: %d %d", q.a, q.b, x, y)
		}
		if x, y := c.Compare(q.b, q.a), c.Place(q.b, q.a); x != -q.compare || y != -q.place {
			t.Errorf("%x %x: %d %d", q.b, q.a, x, y)
		}
	}
	if one := collator(t, false, 1); one.Compare([]rune("a"), []rune("A")) != 0 || one.Place([]rune("a"), []rune("A")) != 1 {
		t.Error("one level")
	}
}

func TestP16_2Sort(t *testing.T) {
	c := collator(t, false, 3)
	var l [][]rune
	for i := range rising {
		l = append(l, []rune(rising[(i*7+3)%len(rising)]))
	}
	kept := slices.Clone(l)
	got := c.Sort(l...)
	if !slices.EqualFunc(got, rising, func(a []rune, b string) bool { return string(a) == b }) {
		t.Errorf("%q", got)
	}
	for i := range l {
		if !slices.Equal(l[i], kept[i]) {
			t.Error("what was handed in was changed")
		}
	}
	for i := range got {
		for j := range got[i] {
			got[i][j] = 'z'
		}
	}
	for i := range l {
		if string(l[i]) != rising[(i*7+3)%len(rising)] {
			t.Error("an answer shares memory with what was handed in")
		}
	}
	// Those of one place stay as they stood.
	two := [][]rune{[]rune("b"), []rune("\u00e9"), []rune("e\u0301"), []rune("a"), []rune("e\u0301"), []rune("\u00e9")}
	got = c.Sort(two...)
	for i, want := range []string{"a", "b", "\u00e9", "e\u0301", "e\u0301", "\u00e9"} {
		if string(got[i]) != want {
			t.Errorf("%d: %q", i, string(got[i]))
		}
	}
	if got := c.Sort(); len(got) != 0 {
		t.Error(got)
	}
}

func TestP16_2Weights(t *testing.T) {
	c := collator(t, true, 4)
	l := []rune(" A\u0301")
	over := c.Weights(l...)
	l[1] = 'b'
	want := []api.Weights{{0, 0, 0, 0x209}, {0x1c47, 0x20, 8, 65535}, {0, 0x24, 2, 65535}}
	for range 2 {
		if got := slices.Collect(over); !slices.Equal(got, want) {
			t.Error(got)
		}
	}
	many := 0
	for range over {
		if many++; many == 2 {
			break
		}
	}
	if many != 2 {
		t.Error(many)
	}
}

func TestP16_2NilAndZero(t *testing.T) {
	for _, c := range []*sortkey.Collator{nil, {}} {
		if len(c.Key('a')) != 0 || c.Compare([]rune("a"), []rune("b")) != 0 || c.Place([]rune("a"), []rune("b")) != 0 || c.Options() != (api.Options{}) || c.Data() != nil || c.Table() != nil {
			t.Error("nothing has something")
		}
		if got := c.Sort([]rune("b"), []rune("a"), nil); len(got) != 3 || string(got[0]) != "b" || string(got[1]) != "a" || len(got[2]) != 0 {
			t.Errorf("%q", got)
		}
		for w := range c.Weights('a') {
			t.Error(w)
		}
	}
}

func TestP16_3Levels(t *testing.T) {
	for _, q := range []struct {
		key  string
		want [][]uint16
	}{
		{"\x1c\x47\x00\x00\x00\x20\x00\x00\x00\x02", [][]uint16{{0x1c47}, {0x20}, {2}}},
		{"\x1c\x47\x00\x00\x00\x20\x00\x00\x00\x02\xff", [][]uint16{{0x1c47}, {0x20}, {2}}},
		{"\x1c\x47\x1c\x00\x00\x01", [][]uint16{{0x1c47, 0x1c00, 1}}},
		{"\x00\x00\x00\x00", [][]uint16{nil, nil, nil}},
		{"\x00\x00\xff\xff\x00\x00", [][]uint16{nil, {0xffff}, nil}},
		{"\x01\x00\x00\x02", [][]uint16{{0x100, 2}}},
	} {
		if got := sortkey.Levels([]byte(q.key)); !slices.EqualFunc(got, q.want, slices.Equal[[]uint16]) {
			t.Errorf("%x: %x", q.key, got)
		}
	}
	c := collator(t, false, 3)
	if got := sortkey.Levels(c.Key([]rune("ba")...)); !slices.EqualFunc(got, [][]uint16{{0x1c60, 0x1c47}, {0x20, 0x20}, {2, 2}}, slices.Equal[[]uint16]) {
		t.Errorf("%x", got)
	}
}

func TestP16_4WhatFollows(t *testing.T) {
	var l [][]rune
	for _, a := range rising {
		for _, b := range []string{"", "\u0301", "a\u0323"} {
			l = append(l, []rune(a+b))
		}
	}
	c := collator(t, true, 4)
	d, _ := parts(t)
	for _, a := range l {
		for levels := 1; levels < 4; levels++ {
			if !bytes.HasPrefix(c.Key(a...), collator(t, true, levels).Key(a...)) {
				t.Errorf("%q: the key of %d levels begins no other one", string(a), levels)
			}
		}
		for _, b := range l {
			if c.Place(a, b) != -c.Place(b, a) || c.Compare(a, b) != -c.Compare(b, a) || c.Compare(a, b) != 0 && c.Place(a, b) != c.Compare(a, b) {
				t.Errorf("%q %q", string(a), string(b))
			}
			if (c.Place(a, b) == 0) != slices.Equal(decomp.NFD(d, a...), decomp.NFD(d, b...)) {
				t.Errorf("%q %q: one place", string(a), string(b))
			}
		}
	}
	sorted := c.Sort(l...)
	for i := 1; i < len(sorted); i++ {
		for _, x := range sorted[i:] {
			if c.Place(sorted[i-1], x) > 0 {
				t.Errorf("%q behind %q", string(sorted[i-1]), string(x))
			}
		}
	}
}
