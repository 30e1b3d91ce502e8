package elements_test

import (
	"slices"
	"testing"

	"blazon/api"
	"blazon/decomp"
	"blazon/ducet"
	"blazon/elements"
	"blazon/ucd"
)

const lines = "00E5;A RING;Ll;0;;0061 030A;;;;;;;;;\n" +
	"0301;ACUTE;Mn;230;;;;;;;;;;;\n" +
	"0302;CIRCUMFLEX;Mn;230;;;;;;;;;;;\n" +
	"030A;RING;Mn;230;;;;;;;;;;;\n" +
	"0323;DOT BELOW;Mn;220;;;;;;;;;;;\n" +
	"0327;CEDILLA;Mn;202;;;;;;;;;;;\n" +
	"0345;IOTA;Mn;240;;;;;;;;;;;\n" +
	"1E00;A RING BELOW;Ll;0;;00E5 0323;;;;;;;;;\n" +
	"D800;A SURROGATE;Cs;225;;;;;;;;;;;\n"

const weights = "0061 ; [.0010.0020.0002]\n" +
	"0061 030A ; [.0011.0020.0002]\n" +
	"0061 030A 0345 ; [.0012.0020.0002]\n" +
	"0061 0302 0301 ; [.0016.0020.0002]\n" +
	"0061 0062 ; [.0013.0020.0002][.0014.0020.0002]\n" +
	"0061 0062 0063 0064 ; [.0015.0020.0002]\n" +
	"0301 ; [.0000.0024.0002]\n" +
	"0323 ; [.0000.002D.0002]\n" +
	"0327 ; [.0000.0030.0002]\n" +
	"0327 0323 ; [.0000.0031.0002]\n" +
	"0065 030A ; [.0017.0020.0002]\n" +
	"0020 ; [*0209.0020.0002]\n"

// tables are the table and the data of the lines.
func tables(t *testing.T) (*ducet.Table, *ucd.Data) {
	t.Helper()
	d, e := ucd.Of(lines, "")
	x, e2 := ducet.New(weights)
	if e != api.OK || e2 != api.OK {
		t.Fatal(e, e2)
	}
	return x, d
}

// cases are texts, and the S of their steps.
var cases = []struct {
	text []rune
	want [][]rune
}{
	{nil, nil},
	{[]rune{0x61}, [][]rune{{0x61}}},
	{[]rune{0x61, 0x61}, [][]rune{{0x61}, {0x61}}},
	{[]rune{0x62}, [][]rune{{0x62}}},
	{[]rune{0x61, 0x30a}, [][]rune{{0x61, 0x30a}}},
	{[]rune{0xe5}, [][]rune{{0x61, 0x30a}}},
	{[]rune{0x1e00}, [][]rune{{0x61, 0x30a}, {0x323}}},
	// the dot below does not block the ring, and stays
	{[]rune{0x61, 0x323, 0x30a}, [][]rune{{0x61, 0x30a}, {0x323}}},
	{[]rune{0x61, 0x30a, 0x323}, [][]rune{{0x61, 0x30a}, {0x323}}},
	// another one of the same class does
	{[]rune{0x61, 0x301, 0x30a}, [][]rune{{0x61}, {0x301}, {0x30a}}},
	{[]rune{0x61, 0x30a, 0x301}, [][]rune{{0x61, 0x30a}, {0x301}}},
	// what came to S blocks nothing more, and S grows step by step
	{[]rune{0x61, 0x30a, 0x345}, [][]rune{{0x61, 0x30a, 0x345}}},
	{[]rune{0x61, 0x323, 0x30a, 0x345}, [][]rune{{0x61, 0x30a, 0x345}, {0x323}}},
	{[]rune{0x61, 0x323, 0x30a, 0x301, 0x345}, [][]rune{{0x61, 0x30a, 0x345}, {0x323}, {0x301}}},
	{[]rune{0x61, 0x327, 0x323, 0x30a, 0x345, 0x61}, [][]rune{{0x61, 0x30a, 0x345}, {0x327, 0x323}, {0x61}}},
	// each rune that comes to S must make a line with it
	{[]rune{0x61, 0x323, 0x302, 0x301}, [][]rune{{0x61}, {0x323}, {0x302}, {0x301}}},
	{[]rune{0x61, 0x302, 0x301}, [][]rune{{0x61, 0x302, 0x301}}},
	// a rune of class 0 ends it
	{[]rune{0x61, 0x63, 0x30a}, [][]rune{{0x61}, {0x63}, {0x30a}}},
	{[]rune{0x61, 0x323, 0x63, 0x30a}, [][]rune{{0x61}, {0x323}, {0x63}, {0x30a}}},
	// the longest beginning
	{[]rune{0x61, 0x62}, [][]rune{{0x61, 0x62}}},
	{[]rune{0x61, 0x62, 0x63}, [][]rune{{0x61, 0x62}, {0x63}}},
	{[]rune{0x61, 0x62, 0x63, 0x64}, [][]rune{{0x61, 0x62, 0x63, 0x64}}},
	// where no line names S, nothing comes to it
	{[]rune{0x64, 0x323, 0x30a}, [][]rune{{0x64}, {0x323}, {0x30a}}},
	{[]rune{0x65, 0x30a, 0x323}, [][]rune{{0x65}, {0x323}, {0x30a}}}, // in order the dot stands ahead
	{[]rune{0x65, 0x30a}, [][]rune{{0x65, 0x30a}}},
	{[]rune{0x327, 0x323}, [][]rune{{0x327, 0x323}}},
	{[]rune{0x323, 0x327}, [][]rune{{0x327, 0x323}}},
	// what is no code point, and surrogates
	{[]rune{-1, 0x30a}, [][]rune{{-1}, {0x30a}}},
	{[]rune{0x61, -1, 0x30a}, [][]rune{{0x61}, {-1}, {0x30a}}},
	{[]rune{0x110000, 0xdfff}, [][]rune{{0x110000}, {0xdfff}}},
	{[]rune{0x61, 0xd800, 0x30a}, [][]rune{{0x61, 0x30a}, {0xd800}}},
	{[]rune{0xac01}, [][]rune{{0x1100}, {0x1161}, {0x11a8}}},
}

func TestP14_1Steps(t *testing.T) {
	x, d := tables(t)
	for _, c := range cases {
		l := slices.Clone(c.text)
		over := elements.Steps(x, d, l...)
		for i := range l {
			l[i] = 0x61
		}
		for range 2 {
			at := 0
			var all []api.Element
			for s, some := range over {
				if at >= len(c.want) || !slices.Equal(s, c.want[at]) {
					t.Fatalf("%x: %x at %d, not %x", c.text, s, at, c.want)
				}
				want, is := x.Find(s...)
				if !is {
					want = x.Implicit(s[0])
				}
				if !slices.Equal(some, want) {
					t.Errorf("%x: %v, not %v", c.text, some, want)
				}
				all = append(all, want...)
				s[0] = 0x62
				if len(some) > 0 {
					some[0].P = 99
				}
				at++
			}
			if at != len(c.want) {
				t.Errorf("%x: %d steps", c.text, at)
			}
			if got := elements.Of(x, d, c.text...); !slices.Equal(got, all) {
				t.Errorf("%x: %v, not %v", c.text, got, all)
			}
		}
		if got := elements.Apart(x, d, c.text...); !slices.EqualFunc(got, c.want, slices.Equal[[]rune]) {
			t.Errorf("%x: %x, not %x", c.text, got, c.want)
		}
	}
}

func TestP14_1Of(t *testing.T) {
	x, d := tables(t)
	for _, c := range []struct {
		text []rune
		want []api.Element
	}{
		{nil, nil},
		{[]rune{0x20, 0x61, 0x62}, []api.Element{{P: 0x209, S: 0x20, T: 2, Variable: true}, {P: 0x13, S: 0x20, T: 2}, {P: 0x14, S: 0x20, T: 2}}},
		{[]rune{0x1e00}, []api.Element{{P: 0x11, S: 0x20, T: 2}, {S: 0x2d, T: 2}}},
		{[]rune{0x4e00}, []api.Element{{P: 0xfb40, S: 32, T: 2}, {P: 0xce00}}},
		{[]rune{-1, 0xd800, 0x110000}, nil},
	} {
		if got := elements.Of(x, d, c.text...); !slices.Equal(got, c.want) {
			t.Errorf("%x: %v", c.text, got)
		}
	}
}

func TestP14_1Left(t *testing.T) {
	x, d := tables(t)
	many := 0
	for range elements.Steps(x, d, 0x61, 0x62, 0x63, 0x64, 0x65, 0x61) {
		if many++; many == 2 {
			break
		}
	}
	if many != 2 {
		t.Error(many)
	}
}

func TestP14_1Nil(t *testing.T) {
	x, d := tables(t)
	for _, n := range []struct {
		t *ducet.Table
		d *ucd.Data
	}{{nil, d}, {x, nil}, {nil, nil}} {
		if len(elements.Of(n.t, n.d, 0x61)) != 0 || len(elements.Apart(n.t, n.d, 0x61)) != 0 {
			t.Error("nothing has elements")
		}
		for range elements.Steps(n.t, n.d, 0x61) {
			t.Error("nothing has a step")
		}
	}
	if got := elements.Of(&ducet.Table{}, d, 0x61); len(got) != 0 {
		t.Error(got)
	}
	empty, _ := ucd.Of("", "")
	none, _ := ducet.New("")
	if got := elements.Of(none, empty, 0x61); len(got) != 2 {
		t.Error(got)
	}
}

func TestP14_2WhatFollows(t *testing.T) {
	x, d := tables(t)
	all := []rune{0x61, 0x62, 0x63, 0xe5, 0x1e00, 0x301, 0x302, 0x30a, 0x323, 0x327, 0x345, 0x64, -1}
	seen := map[string][]api.Element{}
	for _, a := range all {
		for _, b := range all {
			for _, c := range all {
				for _, e := range all {
					l := []rune{a, b, c, e}
					nfd := decomp.NFD(d, l...)
					got := elements.Of(x, d, l...)
					if other, is := seen[string(nfd)]; is && a != -1 && b != -1 && c != -1 && e != -1 && !slices.Equal(got, other) {
						t.Fatalf("%x: %v, and %v", l, got, other)
					}
					seen[string(nfd)] = got
					steps := elements.Apart(x, d, l...)
					var runes []rune
					at := -1
					for _, s := range steps {
						runes = append(runes, s...)
						// The first rune of each S stands behind that of the one ahead.
						next := slices.Index(nfd[at+1:], s[0])
						if next < 0 {
							t.Fatalf("%x: %x", l, steps)
						}
						at += 1 + next
					}
					slices.Sort(runes)
					slices.Sort(nfd)
					if !slices.Equal(runes, nfd) {
						t.Fatalf("%x: %x", l, steps)
					}
				}
			}
		}
	}
}
