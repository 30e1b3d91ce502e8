package compose_test

import (
	"slices"
	"testing"

	"blazon/api"
	"blazon/compose"
	"blazon/decomp"
	"blazon/ucd"
)

// lines are code points with classes and decompositions.
const lines = "0041;A;Lu;0;;;;;;;;;;;\n" +
	"00C0;A GRAVE;Lu;0;;0041 0300;;;;;;;;;\n" +
	"00C1;A ACUTE, EXCLUDED;Lu;0;;0041 0301;;;;;;;;;\n" +
	"00E1;A ACUTE;Ll;0;;0061 0301;;;;;;;;;\n" +
	"0300;GRAVE;Mn;230;;;;;;;;;;;\n" +
	"0301;ACUTE;Mn;230;;;;;;;;;;;\n" +
	"0323;DOT BELOW;Mn;220;;;;;;;;;;;\n" +
	"0327;CEDILLA;Mn;202;;;;;;;;;;;\n" +
	"0344;TWO;Mn;230;;0301 0323;;;;;;;;;\n" +
	"1E00;A GRAVE, DOT BELOW;Lu;0;;00C0 0323;;;;;;;;;\n" +
	"1EA0;A DOT BELOW;Lu;0;;0041 0323;;;;;;;;;\n" +
	"1EA1;A DOT BELOW, GRAVE;Lu;0;;1EA0 0300;;;;;;;;;\n" +
	"1F00;TWO LETTERS;Lu;0;;0041 0042;;;;;;;;;\n" +
	"1F01;OF HANGUL;Lu;0;;1100 0042;;;;;;;;;\n" +
	"1F02;OF A SYLLABLE;Lu;0;;AC01 11A8;;;;;;;;;\n" +
	"2126;ONE;Lu;0;;0041;;;;;;;;;\n" +
	"FB01;FI;Ll;0;;<compat> 0066 0069;;;;;;;;;\n" +
	"FB02;COMPATIBLY;Ll;0;;<compat> 0061 0323 0301;;;;;;;;;\n"

// data is the data of the lines.
func data(t *testing.T) *ucd.Data {
	t.Helper()
	d, e := ucd.Of(lines, "00C1")
	if e != api.OK {
		t.Fatal(ucd.Check(lines, "00C1"))
	}
	return d
}

// same fails the test unless both are the same.
func same(t *testing.T, what any, got []rune, want ...rune) {
	t.Helper()
	if !slices.Equal(got, want) {
		t.Errorf("%x: %x, not %x", what, got, want)
	}
}

func TestP8_1Pair(t *testing.T) {
	d := data(t)
	for pair, want := range map[[2]rune]rune{
		{0x41, 0x300}: 0xc0, {0x61, 0x301}: 0xe1, {0xc0, 0x323}: 0x1e00, {0x41, 0x42}: 0x1f00, {0x1100, 0x42}: 0x1f01, {0xac01, 0x11a8}: 0x1f02,
		{0x1100, 0x1161}: 0xac00, {0x1112, 0x1175}: 0xd788, {0x1101, 0x1162}: 0xac00 + 588 + 28,
		{0xac00, 0x11a8}: 0xac01, {0xac00, 0x11c2}: 0xac1b, {0xd788, 0x11c2}: 0xd7a3,
	} {
		if r, is := compose.Pair(d, pair[0], pair[1]); r != want || !is {
			t.Errorf("%x: %x %v", pair, r, is)
		}
	}
	for _, pair := range [][2]rune{
		{0x41, 0x301}, {0x300, 0x41}, {0x301, 0x323}, {0x66, 0x69}, {0x41, 0}, {-1, -1},
		{0x10ff, 0x1161}, {0x1113, 0x1161}, {0x1100, 0x1160}, {0x1100, 0x1176}, {0x1100, 0x11a8}, {0x1161, 0x1100},
		{0xac00, 0x11a7}, {0xac00, 0x11c3}, {0xac01, 0x11a9}, {0xabff, 0x11a8}, {0xabe4, 0x11a8}, {0xd7a4, 0x11a8}, {0xac00, 0x1161},
	} {
		if r, is := compose.Pair(d, pair[0], pair[1]); r != 0 || is {
			t.Errorf("%x: %x %v", pair, r, is)
		}
	}
}

func TestP8_1PairSyllables(t *testing.T) {
	for l := rune(0x1100); l <= 0x1112; l++ {
		for v := rune(0x1161); v <= 0x1175; v++ {
			lv, is := compose.Pair(nil, l, v)
			if !is || !slices.Equal(decomp.Jamo(lv), []rune{l, v}) {
				t.Fatalf("%x %x: %x", l, v, lv)
			}
			for x := rune(0x11a8); x <= 0x11c2; x++ {
				if lvt, is := compose.Pair(nil, lv, x); !is || !slices.Equal(decomp.Jamo(lvt), []rune{l, v, x}) {
					t.Fatalf("%x %x %x: %x", l, v, x, lvt)
				}
			}
		}
	}
}

func TestP8_1Together(t *testing.T) {
	d := data(t)
	for _, x := range []struct{ l, want []rune }{
		{nil, nil},
		{[]rune{0x41}, []rune{0x41}},
		{[]rune{0x300}, []rune{0x300}},
		{[]rune{0x61, 0x301}, []rune{0xe1}},
		{[]rune{0x300, 0x41, 0x300}, []rune{0x300, 0xc0}},
		{[]rune{0x41, 0x301}, []rune{0x41, 0x301}},
		// a lower class between does not block, the same or a greater one does
		{[]rune{0x61, 0x323, 0x301}, []rune{0xe1, 0x323}},
		{[]rune{0x61, 0x300, 0x301}, []rune{0x61, 0x300, 0x301}},
		{[]rune{0x41, 0x301, 0x323}, []rune{0x41, 0x301, 0x323}},
		{[]rune{0x41, 0x301, 0x300}, []rune{0x41, 0x301, 0x300}},
		// a code point of class 0 between is the last one of class 0 itself
		{[]rune{0x41, 0x9999, 0x300}, []rune{0x41, 0x9999, 0x300}},
		{[]rune{0x41, 0x42}, []rune{0x1f00}},
		{[]rune{0x41, 0x301, 0x42}, []rune{0x41, 0x301, 0x42}},
		{[]rune{0x41, 0x327, 0x42}, []rune{0x41, 0x327, 0x42}},
		// what came of two is put together with the next one
		{[]rune{0x41, 0x300, 0x323}, []rune{0x1e00}},
		{[]rune{0x41, 0x323, 0x300}, []rune{0x1ea1}},
		{[]rune{0x41, 0x327, 0x323, 0x300}, []rune{0x1ea1, 0x327}},
		{[]rune{0x41, 0x323, 0x327, 0x300}, []rune{0x1ea1, 0x327}},
		{[]rune{0xc0, 0x323}, []rune{0x1e00}},
		{[]rune{0x1100, 0x1161, 0x11a8}, []rune{0xac01}},
		{[]rune{0x1100, 0x1161, 0x11a8, 0x11a8}, []rune{0x1f02}},
		{[]rune{0x1100, 0x1100, 0x1161, 0x1161}, []rune{0x1100, 0xac00, 0x1161}},
		{[]rune{0x1100, 0x300, 0x1161}, []rune{0x1100, 0x300, 0x1161}},
		{[]rune{0xac00, 0x300, 0x11a8}, []rune{0xac00, 0x300, 0x11a8}},
		// it is not taken apart ahead
		{[]rune{0x2126, 0x344, 0xfb01}, []rune{0x2126, 0x344, 0xfb01}},
		{[]rune{-1, 0x300, 0xd800}, []rune{-1, 0x300, 0xd800}},
	} {
		l := slices.Clone(x.l)
		got := compose.Together(d, l...)
		same(t, x.l, got, x.want...)
		if len(got) > 0 {
			got[0] = 0
		}
		same(t, "handed in", l, x.l...)
	}
}

func TestP8_2Forms(t *testing.T) {
	d := data(t)
	for _, x := range []struct{ l, nfd, nfc, nfkd, nfkc []rune }{
		{nil, nil, nil, nil, nil},
		{[]rune{0x61, 0x301}, []rune{0x61, 0x301}, []rune{0xe1}, []rune{0x61, 0x301}, []rune{0xe1}},
		{[]rune{0x1100, 0x1161, 0x11a8}, []rune{0x1100, 0x1161, 0x11a8}, []rune{0xac01}, []rune{0x1100, 0x1161, 0x11a8}, []rune{0xac01}},
		{[]rune{0xac01}, []rune{0x1100, 0x1161, 0x11a8}, []rune{0xac01}, []rune{0x1100, 0x1161, 0x11a8}, []rune{0xac01}},
		{[]rune{0xc1}, []rune{0x41, 0x301}, []rune{0x41, 0x301}, []rune{0x41, 0x301}, []rune{0x41, 0x301}},
		{[]rune{0x2126, 0x300}, []rune{0x41, 0x300}, []rune{0xc0}, []rune{0x41, 0x300}, []rune{0xc0}},
		{[]rune{0x1e00}, []rune{0x41, 0x323, 0x300}, []rune{0x1ea1}, []rune{0x41, 0x323, 0x300}, []rune{0x1ea1}},
		{[]rune{0xfb01}, []rune{0xfb01}, []rune{0xfb01}, []rune{0x66, 0x69}, []rune{0x66, 0x69}},
		{[]rune{0xfb02}, []rune{0xfb02}, []rune{0xfb02}, []rune{0x61, 0x323, 0x301}, []rune{0xe1, 0x323}},
		{[]rune{0x61, 0x344}, []rune{0x61, 0x323, 0x301}, []rune{0xe1, 0x323}, []rune{0x61, 0x323, 0x301}, []rune{0xe1, 0x323}},
	} {
		l := slices.Clone(x.l)
		same(t, x.l, compose.NFC(d, l...), x.nfc...)
		same(t, x.l, compose.NFKC(d, l...), x.nfkc...)
		same(t, x.l, compose.Form(d, api.FormNFD, l...), x.nfd...)
		same(t, x.l, compose.Form(d, api.FormNFC, l...), x.nfc...)
		same(t, x.l, compose.Form(d, api.FormNFKD, l...), x.nfkd...)
		same(t, x.l, compose.Form(d, api.FormNFKC, l...), x.nfkc...)
		same(t, "handed in", l, x.l...)
		for _, f := range []api.Form{0, -1, 5, 1 << 40} {
			got := compose.Form(d, f, l...)
			same(t, x.l, got, x.l...)
			if len(got) > 0 {
				got[0] = 0
				same(t, "handed in", l, x.l...)
			}
		}
	}
}

func TestP8_2Nil(t *testing.T) {
	for _, d := range []*ucd.Data{nil, {}} {
		if r, is := compose.Pair(d, 0x41, 0x300); r != 0 || is {
			t.Error(r, is)
		}
		same(t, "nil", compose.Together(d, 0x41, 0x300, 0x1100, 0x1161), 0x41, 0x300, 0xac00)
		same(t, "nil", compose.NFC(d, 0xc0, 0xac01, 0x11a8), 0xc0, 0xac01, 0x11a8)
		same(t, "nil", compose.NFKC(d, 0xfb01, 0x1100, 0x1161), 0xfb01, 0xac00)
	}
}

func TestP8_3WhatFollows(t *testing.T) {
	d := data(t)
	all := []rune{0x41, 0x42, 0x61, 0xc0, 0xc1, 0xe1, 0x300, 0x301, 0x323, 0x327, 0x344, 0x1e00, 0x1ea0, 0x1ea1, 0x1f00, 0x1f01, 0x1f02, 0x2126, 0xfb02, 0xac00, 0xac01, 0x1100, 0x1161, 0x11a8}
	seen := map[string]string{}
	for _, a := range all {
		for _, b := range all {
			for _, c := range all {
				l := []rune{a, b, c}
				nfd, nfc, nfkd, nfkc := decomp.NFD(d, l...), compose.NFC(d, l...), decomp.NFKD(d, l...), compose.NFKC(d, l...)
				same(t, l, compose.NFC(d, nfc...), nfc...)
				same(t, l, decomp.NFD(d, nfc...), nfd...)
				same(t, l, compose.NFKC(d, nfkc...), nfkc...)
				same(t, l, decomp.NFKD(d, nfkc...), nfkd...)
				if x, is := seen[string(nfd)]; is && x != string(nfc) {
					t.Errorf("%x: one NFD, two NFC", l)
				}
				seen[string(nfd)] = string(nfc)
			}
		}
	}
	back := map[string]string{}
	for nfd, nfc := range seen {
		if x, is := back[nfc]; is && x != nfd {
			t.Errorf("%q: one NFC, two NFD", nfc)
		}
		back[nfc] = nfd
	}
}
