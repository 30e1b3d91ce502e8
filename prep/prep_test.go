package prep_test

import (
	"slices"
	"testing"

	"blazon/api"
	"blazon/compose"
	"blazon/fold"
	"blazon/prep"
	"blazon/ucd"
)

const lines = "0041;A;Lu;0;;;;;;;;;;;\n" +
	"00C0;A GRAVE;Lu;0;;0041 0300;;;;;;;;;\n" +
	"00E0;A GRAVE;Ll;0;;0061 0300;;;;;;;;;\n" +
	"0300;GRAVE;Mn;230;;;;;;;;;;;\n" +
	"0378;NONE;Cn;0;;;;;;;;;;;\n" +
	"0379;PRIVATE;Co;0;;;;;;;;;;;\n" +
	"037A;SURROGATE;Cs;0;;;;;;;;;;;\n" +
	"037B;CONTROL;Cc;0;;;;;;;;;;;\n" +
	"2100;TO WHAT IS PROHIBITED;So;0;;<x> 0062 FFFD;;;;;;;;;\n" +
	"2101;TO A TABULATOR;So;0;;<x> 0009 00AD;;;;;;;;;\n" +
	"FB01;FI;Ll;0;;<compat> 0066 0069;;;;;;;;;\n"

const folding = "0041; C; 0061;\n00C0; C; 00E0;\n00DF; F; 0073 0073;\n00D0; S; 00F0\n00D1; C; E000\n00D2; C; 0009\n"

// tables are the data and the foldings of the lines.
func tables(t *testing.T) (*ucd.Data, *fold.Fold) {
	t.Helper()
	d, e := ucd.Of(lines, "")
	f, e2 := fold.Of(folding)
	if e != api.OK || e2 != api.OK {
		t.Fatal(ucd.Check(lines, ""), fold.Check(folding))
	}
	return d, f
}

// spans are the code points that are mapped so: from, to, from, to, ...
var (
	nothing = []rune{0, 8, 0xe, 0x1f, 0x7f, 0x84, 0x86, 0x9f, 0xad, 0xad, 0x34f, 0x34f, 0x6dd, 0x6dd, 0x70f, 0x70f, 0x1806, 0x1806, 0x180b, 0x180e,
		0x200b, 0x200f, 0x202a, 0x202e, 0x2060, 0x2063, 0x206a, 0x206f, 0xfe00, 0xfe0f, 0xfeff, 0xfeff, 0xfff9, 0xfffc, 0x1d173, 0x1d17a, 0xe0001, 0xe0001, 0xe0020, 0xe007f}
	space      = []rune{9, 0xd, 0x85, 0x85, 0xa0, 0xa0, 0x1680, 0x1680, 0x2000, 0x200a, 0x2028, 0x2029, 0x202f, 0x202f, 0x205f, 0x205f, 0x3000, 0x3000}
	prohibited = []rune{0x340, 0x341, 0xd800, 0xdfff, 0xe000, 0xf8ff, 0xfdd0, 0xfdef, 0xfffd, 0xfffd, 0xf0000, 0x10ffff}
)

// in: does a code point stand in spans?
func in(spans []rune, r rune) bool {
	for i := 0; i < len(spans); i += 2 {
		if r >= spans[i] && r <= spans[i+1] {
			return true
		}
	}
	return false
}

func TestP10_1EachCodePoint(t *testing.T) {
	d, f := tables(t)
	for r := rune(-70000); r < 0x150000; r++ {
		low := ((r % 65536) + 65536) % 65536
		bad := in(prohibited, r) || r >= 0 && low >= 0xfffe || r >= 0x378 && r <= 0x37a
		if prep.Nothing(r) != in(nothing, r) || prep.Space(r) != in(space, r) || prep.Prohibited(d, r) != bad {
			t.Fatalf("%x: %v %v %v", r, prep.Nothing(r), prep.Space(r), prep.Prohibited(d, r))
		}
		want := f.Full(r)
		if in(nothing, r) {
			want = nil
		} else if in(space, r) {
			want = []rune{' '}
		}
		if got := prep.Map(f, r); !slices.Equal(got, want) {
			t.Fatalf("%x: %x", r, got)
		}
	}
	for _, r := range []rune{1<<31 - 1, 1<<31 - 2} {
		if !prep.Prohibited(d, r) {
			t.Errorf("%x", r)
		}
	}
	for _, r := range []rune{1<<31 - 3, -1, -2, -1 << 31} {
		if prep.Prohibited(d, r) {
			t.Errorf("%x", r)
		}
	}
}

func TestP10_1Map(t *testing.T) {
	_, f := tables(t)
	l := []rune{'A', 9, 0xad, 0xdf, 0xd0, 0x3000, 'b', 0xd2, 0xd1}
	got := prep.Map(f, l...)
	if !slices.Equal(got, []rune{'a', ' ', 's', 's', 0xd0, ' ', 'b', 9, 0xe000}) || l[0] != 'A' {
		t.Errorf("%x", got)
	}
	if got = prep.Map(f); len(got) != 0 {
		t.Errorf("%x", got)
	}
	if got = prep.Map(nil, 'A', 9, 0); !slices.Equal(got, []rune{'A', ' '}) {
		t.Errorf("%x", got)
	}
}

// named are names, and what they are prepared to.
var named = []struct {
	name  string
	want  []rune
	e     api.Errno
	where int
}{
	{"", nil, api.OK, -1},
	{"a\t\u00adb", []rune("a b"), api.OK, -1},
	{"A \u00a0 B", []rune("a   B"), api.OK, -1},
	{"\u00df\u00d0", []rune{'s', 's', 0xd0}, api.OK, -1},
	{"A\u0300", []rune{0xe0}, api.OK, -1},
	{"\u00c0", []rune{0xe0}, api.OK, -1},
	{"a\u00ad\u0300", []rune{0xe0}, api.OK, -1},
	{"\ufb01", []rune("fi"), api.OK, -1},
	{"\u2101", []rune{9, 0xad}, api.OK, -1},
	{"\u037b", []rune{0x37b}, api.OK, -1},
	{"\x00\x01", nil, api.OK, -1},
	{"\ue000", nil, api.ErrProhibited, 0},
	{"ab\ufffd", nil, api.ErrProhibited, 2},
	{"A\u0300\u0378\ufffd", nil, api.ErrProhibited, 1},
	{"a\u0379", nil, api.ErrProhibited, 1},
	{"\u037a", nil, api.ErrProhibited, 0},
	{"\u00ad\u00ada\u0340", nil, api.ErrProhibited, 1},
	{"\ufb01\ufb01\uffff", nil, api.ErrProhibited, 4},
	{"\U0001fffe", nil, api.ErrProhibited, 0},
	{"\U0010ffff", nil, api.ErrProhibited, 0},
	{"\u00d1", nil, api.ErrProhibited, 0},
	{"\u2100", nil, api.ErrProhibited, 1},
	{"\xff", nil, api.ErrUTF, -2},
	{"a\xed\xa0\x80", nil, api.ErrUTF, -2},
	{"\ufffd\xc0\x80", nil, api.ErrUTF, -2},
}

func TestP10_2OfWhere(t *testing.T) {
	d, f := tables(t)
	for _, x := range named {
		l, e := prep.Of(d, f, x.name)
		if !slices.Equal(l, x.want) || e != x.e {
			t.Errorf("%q: %x %v", x.name, l, e)
		}
		if at := prep.Where(d, f, x.name); at != x.where {
			t.Errorf("%q: at %d", x.name, at)
		}
	}
	if l, e := prep.Of(nil, nil, "A\u0378 \ufb01\t"); string(l) != "A\u0378 \ufb01 " || e != api.OK {
		t.Errorf("%x %v", l, e)
	}
	if l, e := prep.Of(nil, nil, "\ue000"); len(l) != 0 || e != api.ErrProhibited || prep.Where(nil, nil, "a\ue000") != 1 {
		t.Errorf("%x %v", l, e)
	}
}

func TestP10_2Steps(t *testing.T) {
	d, f := tables(t)
	over := prep.Steps(d, f, "A\u0300\t\u00ad\ufb01\ufffd")
	want := [][]rune{{'A', 0x300, 9, 0xad, 0xfb01, 0xfffd}, {'a', 0x300, ' ', 0xfb01, 0xfffd}, {0xe0, ' ', 'f', 'i', 0xfffd}}
	for range 2 {
		at := 0
		for n, l := range over {
			if n != at+1 || n > 3 || !slices.Equal(l, want[at]) {
				t.Fatalf("%d: %x", n, l)
			}
			l[0] = 0
			at++
		}
		if at != 3 {
			t.Error(at)
		}
	}
	many := 0
	for n := range over {
		many++
		if n == 2 {
			break
		}
	}
	if many != 2 {
		t.Error(many)
	}
	for n := range prep.Steps(d, f, "a\xff") {
		t.Error(n)
	}
}

func TestP10_3WhatFollows(t *testing.T) {
	d, f := tables(t)
	bits := []string{"a", "A", "\u00c0", "\u0300", "\ufb01", "\u2100", "\u2101", "\u00df", "\u00d1", "\u00d2", "\t", "\u00ad", "\ufffd", "\u0378", "\uac00", "\u11a8"}
	for _, a := range bits {
		for _, b := range bits {
			for _, c := range bits {
				l, e := prep.Of(d, f, a+b+c)
				if (e == api.OK) != (prep.Where(d, f, a+b+c) == -1) {
					t.Errorf("%q: %v", a+b+c, e)
				}
				if e != api.OK {
					continue
				}
				if !slices.Equal(compose.NFKC(d, l...), l) {
					t.Errorf("%q: %x is not its own NFKC", a+b+c, l)
				}
				if slices.ContainsFunc(l, func(r rune) bool { return prep.Prohibited(d, r) }) {
					t.Errorf("%q: %x", a+b+c, l)
				}
			}
		}
	}
}
