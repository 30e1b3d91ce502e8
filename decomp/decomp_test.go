package decomp_test

import (
	"slices"
	"strings"
	"testing"

	"blazon/api"
	"blazon/decomp"
	"blazon/ucd"
)

// lines are code points with classes and decompositions.
const lines = "0041;A;Lu;0;;;;;;;;;;;\n" +
	"00C0;A GRAVE;Lu;0;;0041 0300;;;;;;;;;\n" +
	"00E1;A ACUTE;Ll;0;;0061 0301;;;;;;;;;\n" +
	"0300;GRAVE;Mn;230;;;;;;;;;;;\n" +
	"0301;ACUTE;Mn;230;;;;;;;;;;;\n" +
	"0316;GRAVE BELOW;Mn;220;;;;;;;;;;;\n" +
	"0323;DOT BELOW;Mn;220;;;;;;;;;;;\n" +
	"0334;TILDE;Mn;1;;;;;;;;;;;\n" +
	"0344;TWO;Mn;230;;0301 0323;;;;;;;;;\n" +
	"1E00;OF COMPOSITES;Lu;0;;00C0 0323;;;;;;;;;\n" +
	"2126;ONE;Lu;0;;0041;;;;;;;;;\n" +
	"FB01;FI;Ll;0;;<compat> 0066 0069;;;;;;;;;\n" +
	"FB02;MIXED;Ll;0;;FB01 1E00;;;;;;;;;\n" +
	"FB03;OF HANGUL;Ll;0;;<x> AC01 00C0 AC00;;;;;;;;;\n" +
	"FB04;OF HANGUL;Ll;0;;AC01 0041;;;;;;;;;\n"

// data is the data of the lines.
func data(t *testing.T) *ucd.Data {
	t.Helper()
	d, e := ucd.Of(lines, "")
	if e != api.OK {
		t.Fatal(ucd.Check(lines, ""))
	}
	return d
}

// same fails the test unless both are the same.
func same(t *testing.T, what any, got []rune, want ...rune) {
	t.Helper()
	if !slices.Equal(got, want) {
		t.Errorf("%x: %x, not %x", what, got, want)
	}
}

func TestP7_1Apart(t *testing.T) {
	d := data(t)
	for _, x := range []struct {
		r                     rune
		canonical, compatible []rune
	}{
		{0x41, []rune{0x41}, []rune{0x41}},
		{0xc0, []rune{0x41, 0x300}, []rune{0x41, 0x300}},
		{0x344, []rune{0x301, 0x323}, []rune{0x301, 0x323}},
		{0x1e00, []rune{0x41, 0x300, 0x323}, []rune{0x41, 0x300, 0x323}},
		{0x2126, []rune{0x41}, []rune{0x41}},
		{0xfb01, []rune{0xfb01}, []rune{0x66, 0x69}},
		{0xfb02, []rune{0xfb01, 0x41, 0x300, 0x323}, []rune{0x66, 0x69, 0x41, 0x300, 0x323}},
		{0xfb03, []rune{0xfb03}, []rune{0x1100, 0x1161, 0x11a8, 0x41, 0x300, 0x1100, 0x1161}},
		{0xfb04, []rune{0x1100, 0x1161, 0x11a8, 0x41}, []rune{0x1100, 0x1161, 0x11a8, 0x41}},
		{0x9999, []rune{0x9999}, []rune{0x9999}},
		{-1, []rune{-1}, []rune{-1}},
		{0xd800, []rune{0xd800}, []rune{0xd800}},
		{0x110000, []rune{0x110000}, []rune{0x110000}},
		{0xabff, []rune{0xabff}, []rune{0xabff}},
		{0xac00, []rune{0x1100, 0x1161}, []rune{0x1100, 0x1161}},
		{0xac01, []rune{0x1100, 0x1161, 0x11a8}, []rune{0x1100, 0x1161, 0x11a8}},
		{0xd7a3, []rune{0x1112, 0x1175, 0x11c2}, []rune{0x1112, 0x1175, 0x11c2}},
		{0xd7a4, []rune{0xd7a4}, []rune{0xd7a4}},
	} {
		same(t, x.r, decomp.Apart(d, x.r, false), x.canonical...)
		same(t, x.r, decomp.Apart(d, x.r, true), x.compatible...)
		same(t, x.r, decomp.NFD(d, x.r), decomp.Order(d, x.canonical...)...)
		same(t, x.r, decomp.NFKD(d, x.r), decomp.Order(d, x.compatible...)...)
	}
}

func TestP7_1Order(t *testing.T) {
	d := data(t)
	for _, x := range []struct{ l, want []rune }{
		{nil, nil},
		{[]rune{0x41, 0x42}, []rune{0x41, 0x42}},
		{[]rune{0x301, 0x323}, []rune{0x323, 0x301}},
		{[]rune{0x301, 0x300, 0x301}, []rune{0x301, 0x300, 0x301}},
		{[]rune{0x323, 0x316, 0x301, 0x300}, []rune{0x323, 0x316, 0x301, 0x300}},
		{[]rune{0x301, 0x323, 0x300, 0x316, 0x334}, []rune{0x334, 0x323, 0x316, 0x301, 0x300}},
		{[]rune{0x42, 0x301, 0x323, 0x41, 0x300, 0x316}, []rune{0x42, 0x323, 0x301, 0x41, 0x316, 0x300}},
		{[]rune{0x301, 0x9999, 0x323}, []rune{0x301, 0x9999, 0x323}},
		{[]rune{0x301, -1, 0x323}, []rune{0x301, -1, 0x323}},
		{[]rune{0xc0, 0x344, 0x323}, []rune{0xc0, 0x323, 0x344}},
	} {
		l := slices.Clone(x.l)
		got := decomp.Order(d, l...)
		same(t, x.l, got, x.want...)
		same(t, "handed in", l, x.l...)
		if len(got) > 0 {
			got[0] = 0
			same(t, "handed in", l, x.l...)
		}
	}
}

func TestP7_1Texts(t *testing.T) {
	d := data(t)
	same(t, 0xe1, decomp.NFD(d, 0xe1), 0x61, 0x301)
	same(t, 0xac01, decomp.NFD(d, 0xac01), 0x1100, 0x1161, 0x11a8)
	same(t, "in order", decomp.NFD(d, 0xc0, 0x323, 0x334, 0x1e00), 0x41, 0x334, 0x323, 0x300, 0x41, 0x323, 0x300)
	same(t, "compatibly", decomp.NFKD(d, 0xfb01, 0x301, 0x316), 0x66, 0x69, 0x316, 0x301)
	same(t, "canonically", decomp.NFD(d, 0xfb01, 0x301, 0x316), 0xfb01, 0x316, 0x301)
	same(t, "the end of one, the beginning of the next one", decomp.NFD(d, 0x344, 0x344), 0x323, 0x323, 0x301, 0x301)
	same(t, "nothing", decomp.NFD(d))
	same(t, "nothing", decomp.NFKD(d))
}

func TestP7_2Steps(t *testing.T) {
	d := data(t)
	l := []rune{0xfb01, 0xac01, 0x344}
	canonical, compatible := decomp.Steps(d, false, l...), decomp.Steps(d, true, l...)
	l[0] = 0x41
	for range 2 {
		var each, all []rune
		for r, row := range canonical {
			each, all = append(each, r), append(all, row...)
			row[0] = 0
		}
		same(t, "each", each, 0xfb01, 0xac01, 0x344)
		same(t, "all", all, 0xfb01, 0x1100, 0x1161, 0x11a8, 0x301, 0x323)
		all = nil
		for _, row := range compatible {
			all = append(all, row...)
		}
		same(t, "all", all, 0x66, 0x69, 0x1100, 0x1161, 0x11a8, 0x301, 0x323)
	}
	many := 0
	for range canonical {
		if many++; many == 2 {
			break
		}
	}
	if many != 2 {
		t.Error(many)
	}
	for r := range decomp.Steps(d, true) {
		t.Errorf("%x", r)
	}
}

func TestP7_2Hangul(t *testing.T) {
	for r := rune(0xab00); r < 0xd900; r++ {
		is := r >= 0xac00 && r <= 0xd7a3
		l := decomp.Jamo(r)
		if decomp.Syllable(r) != is || !is && len(l) != 0 {
			t.Fatalf("%x: %v %x", r, decomp.Syllable(r), l)
		}
		if !is {
			continue
		}
		back := 0xac00 + ((l[0]-0x1100)*21+l[1]-0x1161)*28
		if len(l) == 3 {
			back += l[2] - 0x11a7
		}
		if back != r || l[0] < 0x1100 || l[0] > 0x1112 || l[1] < 0x1161 || l[1] > 0x1175 || len(l) > 3 || len(l) == 3 && (l[2] <= 0x11a7 || l[2] > 0x11c2) {
			t.Fatalf("%x: %x", r, l)
		}
	}
	for _, r := range []rune{-1, 0, 0x1100, 0x110000} {
		if decomp.Syllable(r) || len(decomp.Jamo(r)) != 0 {
			t.Errorf("%x", r)
		}
	}
}

func TestP7_1Nil(t *testing.T) {
	for _, d := range []*ucd.Data{nil, {}} {
		same(t, 0xc0, decomp.Apart(d, 0xc0, false), 0xc0)
		same(t, 0xfb01, decomp.Apart(d, 0xfb01, true), 0xfb01)
		same(t, 0xac01, decomp.Apart(d, 0xac01, false), 0x1100, 0x1161, 0x11a8)
		same(t, "text", decomp.NFD(d, 0x301, 0x323, 0xac00), 0x301, 0x323, 0x1100, 0x1161)
		same(t, "text", decomp.NFKD(d, 0x301, 0x323, 0xac00), 0x301, 0x323, 0x1100, 0x1161)
		same(t, "text", decomp.Order(d, 0x301, 0x323), 0x301, 0x323)
		for r, row := range decomp.Steps(d, true, 0xfb01) {
			same(t, r, row, 0xfb01)
		}
	}
}

func TestP7_3WhatFollows(t *testing.T) {
	d := data(t)
	all := []rune{0x41, 0xc0, 0x301, 0x323, 0x334, 0x344, 0x1e00, 0xfb01, 0xfb02, 0xfb03, 0xac01, 0x1100, 0x1161, 0x9999}
	var texts [][]rune
	for _, a := range all {
		for _, b := range all {
			texts = append(texts, []rune{a, b}, []rune{0x301, a, b, 0x323})
		}
	}
	for _, x := range texts {
		once := decomp.NFD(d, x...)
		same(t, x, decomp.NFD(d, once...), once...)
		same(t, x, decomp.Order(d, once...), once...)
		once = decomp.NFKD(d, x...)
		same(t, x, decomp.NFKD(d, once...), once...)
		same(t, x, decomp.Order(d, once...), once...)
	}
	for _, x := range texts[:100] {
		for _, y := range texts[100:200] {
			both := append(decomp.NFD(d, x...), decomp.NFD(d, y...)...)
			same(t, x, decomp.NFD(d, append(slices.Clone(x), y...)...), decomp.Order(d, both...)...)
		}
	}
}

func TestP7_3LongRows(t *testing.T) {
	d := data(t)
	l := []rune(strings.Repeat("\u0301\u0323\u0334", 3000))
	got := decomp.NFD(d, l...)
	for i, r := range got {
		if want := []rune{0x334, 0x323, 0x301}[i/3000]; r != want {
			t.Fatalf("%d: %x", i, r)
		}
	}
}
