package quick_test

import (
	"slices"
	"testing"

	"blazon/api"
	"blazon/compose"
	"blazon/quick"
	"blazon/ucd"
)

// lines are code points with classes and decompositions.
const lines = "0041;A;Lu;0;;;;;;;;;;;\n" +
	"00C0;A GRAVE;Lu;0;;0041 0300;;;;;;;;;\n" +
	"00C1;A ACUTE, EXCLUDED;Lu;0;;0041 0301;;;;;;;;;\n" +
	"00E1;A ACUTE;Ll;0;;0061 0301;;;;;;;;;\n" +
	"0300;GRAVE;Mn;230;;;;;;;;;;;\n" +
	"0301;ACUTE;Mn;230;;;;;;;;;;;\n" +
	"0323;DOT BELOW;Mn;220;;;;;;;;;;;\n" +
	"0327;CEDILLA;Mn;202;;;;;;;;;;;\n" +
	"0340;GRAVE AGAIN;Mn;230;;0300;;;;;;;;;\n" +
	"1F00;TWO LETTERS;Lu;0;;0041 0042;;;;;;;;;\n" +
	"1F01;WITH B AHEAD;Lu;0;;0042 0301;;;;;;;;;\n" +
	"FB01;FI;Ll;0;;<compat> 0066 0069;;;;;;;;;\n" +
	"FB02;ACUTE;Ll;0;;<compat> 0301;;;;;;;;;\n" +
	"FB03;OF B;Ll;0;;<compat> 0042 0327;;;;;;;;;\n"

// data is the data of the lines.
func data(t *testing.T) *ucd.Data {
	t.Helper()
	d, e := ucd.Of(lines, "00C1")
	if e != api.OK {
		t.Fatal(ucd.Check(lines, "00C1"))
	}
	return d
}

var forms = []api.Form{api.FormNFD, api.FormNFC, api.FormNFKD, api.FormNFKC}

func TestP9_1Of(t *testing.T) {
	d := data(t)
	for r, want := range map[rune][4]api.Answer{
		0x41:   {api.Yes, api.Yes, api.Yes, api.Yes},
		0x42:   {api.Yes, api.Perhaps, api.Yes, api.Perhaps},
		0xc0:   {api.No, api.Yes, api.No, api.Yes},
		0xc1:   {api.No, api.No, api.No, api.No},
		0xe1:   {api.No, api.Yes, api.No, api.Yes},
		0x300:  {api.Yes, api.Perhaps, api.Yes, api.Perhaps},
		0x301:  {api.Yes, api.Perhaps, api.Yes, api.Perhaps},
		0x323:  {api.Yes, api.Yes, api.Yes, api.Yes},
		0x340:  {api.No, api.No, api.No, api.No},
		0x1f00: {api.No, api.Yes, api.No, api.Yes},
		0x1f01: {api.No, api.Perhaps, api.No, api.Perhaps}, // its first one, B, may go to what stands ahead
		0xfb01: {api.Yes, api.Yes, api.No, api.No},
		0xfb02: {api.Yes, api.Yes, api.No, api.No},
		0xfb03: {api.Yes, api.Yes, api.No, api.No},
		0x1100: {api.Yes, api.Yes, api.Yes, api.Yes},
		0x1160: {api.Yes, api.Yes, api.Yes, api.Yes},
		0x1161: {api.Yes, api.Perhaps, api.Yes, api.Perhaps},
		0x1175: {api.Yes, api.Perhaps, api.Yes, api.Perhaps},
		0x1176: {api.Yes, api.Yes, api.Yes, api.Yes},
		0x11a7: {api.Yes, api.Yes, api.Yes, api.Yes},
		0x11a8: {api.Yes, api.Perhaps, api.Yes, api.Perhaps},
		0x11c2: {api.Yes, api.Perhaps, api.Yes, api.Perhaps},
		0x11c3: {api.Yes, api.Yes, api.Yes, api.Yes},
		0xac00: {api.No, api.Yes, api.No, api.Yes},
		0xd7a3: {api.No, api.Yes, api.No, api.Yes},
		0x9999: {api.Yes, api.Yes, api.Yes, api.Yes},
		-1:     {api.Yes, api.Yes, api.Yes, api.Yes},
		0xd800: {api.Yes, api.Yes, api.Yes, api.Yes},
	} {
		for i, f := range forms {
			if a := quick.Of(d, f, r); a != want[i] {
				t.Errorf("%x, form %d: %d, not %d", r, f, a, want[i])
			}
			if a := quick.Text(d, f, r); a != want[i] {
				t.Errorf("the text %x, form %d: %d, not %d", r, f, a, want[i])
			}
		}
		for _, f := range []api.Form{0, -1, 5} {
			if a := quick.Of(d, f, r); a != api.Yes {
				t.Errorf("%x, form %d: %d", r, f, a)
			}
		}
	}
}

func TestP9_1Text(t *testing.T) {
	d := data(t)
	for _, x := range []struct {
		f     api.Form
		l     []rune
		want  api.Answer
		first int
	}{
		{api.FormNFC, nil, api.Yes, 0},
		{api.FormNFC, []rune{0x61}, api.Yes, 1},
		{api.FormNFC, []rune{0x301}, api.Perhaps, 0},
		{api.FormNFC, []rune{0x61, 0x301}, api.Perhaps, 1},
		{api.FormNFC, []rune{0x61, 0x301, 0xc1}, api.No, 1},
		{api.FormNFC, []rune{0xc1, 0x301}, api.No, 0},
		{api.FormNFC, []rune{0xe1, 0x41, 0xfb01}, api.Yes, 3},
		{api.FormNFC, []rune{0x61, 0x323, 0x327}, api.No, 2},
		{api.FormNFC, []rune{0x61, 0x301, 0x323}, api.No, 1},
		{api.FormNFC, []rune{0x61, 0x301, 0x41, 0x323}, api.Perhaps, 1},
		{api.FormNFD, []rune{0x61, 0x301}, api.Yes, 2},
		{api.FormNFD, []rune{0x61, 0x301, 0x323}, api.No, 2},
		{api.FormNFD, []rune{0x61, 0x323, 0x301, 0x300}, api.Yes, 4},
		{api.FormNFD, []rune{0x301, 0x41, 0x323}, api.Yes, 3},
		{api.FormNFD, []rune{0x301, 0x327}, api.No, 1},
		{api.FormNFD, []rune{0x301, 0x41}, api.Yes, 2},
		{api.FormNFD, []rune{0x61, 0xe1, 0x61}, api.No, 1},
		{api.FormNFKD, []rune{0x61, 0x61, 0xfb01}, api.No, 2},
		{api.FormNFKC, []rune{0x61, 0x42, 0xfb01}, api.No, 1},
		{api.FormNFKC, []rune{0xac00, 0x11a8}, api.Perhaps, 1},
		{0, []rune{0xc1, 0x301, 0x327}, api.Yes, 3},
		{9, []rune{0xc1, 0x301, 0x327}, api.Yes, 3},
	} {
		l := slices.Clone(x.l)
		if a := quick.Text(d, x.f, l...); a != x.want {
			t.Errorf("%x, form %d: %d, not %d", x.l, x.f, a, x.want)
		}
		if n := quick.First(d, x.f, l...); n != x.first {
			t.Errorf("%x, form %d: the first %d, not %d", x.l, x.f, n, x.first)
		}
		if !slices.Equal(l, x.l) {
			t.Error("what was handed in was changed")
		}
	}
}

func TestP9_2IsForm(t *testing.T) {
	d := data(t)
	for _, x := range []struct {
		f       api.Form
		l, want []rune
		known   bool
	}{
		{api.FormNFC, nil, nil, true},
		{api.FormNFC, []rune{0x61}, []rune{0x61}, true},
		{api.FormNFC, []rune{0x61, 0x301}, []rune{0xe1}, false},
		{api.FormNFC, []rune{0x41, 0x301}, []rune{0x41, 0x301}, false},
		{api.FormNFD, []rune{0xe1}, []rune{0x61, 0x301}, false},
		{api.FormNFD, []rune{0x61, 0x301}, []rune{0x61, 0x301}, true},
		{api.FormNFKC, []rune{0xfb03}, []rune{0x42, 0x327}, false},
		{api.FormNFKD, []rune{0xfb01, 0xac00}, []rune{0x66, 0x69, 0x1100, 0x1161}, false},
		{0, []rune{0xc1, 0x301, 0x327}, []rune{0xc1, 0x301, 0x327}, true},
	} {
		l := slices.Clone(x.l)
		got, known := quick.Form(d, x.f, l...)
		if !slices.Equal(got, x.want) || known != x.known {
			t.Errorf("%x, form %d: %x %v", x.l, x.f, got, known)
		}
		if is := quick.Is(d, x.f, l...); is != slices.Equal(x.l, x.want) {
			t.Errorf("%x, form %d: %v", x.l, x.f, is)
		}
		if len(got) > 0 {
			got[0] = 0
		}
		if !slices.Equal(l, x.l) {
			t.Error("an answer shares memory with what was handed in")
		}
	}
}

func TestP9_2Nil(t *testing.T) {
	for _, d := range []*ucd.Data{nil, {}} {
		for _, f := range forms {
			if a := quick.Of(d, f, 0xc0); a != api.Yes {
				t.Error(f, a)
			}
		}
		if quick.Of(d, api.FormNFD, 0xac00) != api.No || quick.Of(d, api.FormNFC, 0x1161) != api.Perhaps || quick.First(d, api.FormNFC, 0x301, 0x323, 0x1161) != 2 || quick.Is(d, api.FormNFC, 0x1100, 0x1161) {
			t.Error("Hangul")
		}
	}
}

func TestP9_3WhatFollows(t *testing.T) {
	d := data(t)
	all := []rune{0x41, 0x42, 0x61, 0xc0, 0xc1, 0xe1, 0x300, 0x301, 0x323, 0x327, 0x340, 0x1f00, 0x1f01, 0xfb01, 0xfb02, 0xfb03, 0xac00, 0x1100, 0x1161, 0x11a8}
	for _, f := range forms {
		for _, a := range all {
			for _, b := range all {
				for _, c := range all {
					l := []rune{a, b, c}
					is, want := quick.Is(d, f, l...), compose.Form(d, f, l...)
					if is != slices.Equal(want, l) {
						t.Fatalf("%x, form %d: %v", l, f, is)
					}
					switch quick.Text(d, f, l...) {
					case api.Yes:
						if !is || quick.First(d, f, l...) != 3 {
							t.Fatalf("%x, form %d: Yes, but it is not", l, f)
						}
					case api.No:
						if is {
							t.Fatalf("%x, form %d: No, but it is", l, f)
						}
					}
					if got, _ := quick.Form(d, f, l...); !slices.Equal(got, want) {
						t.Fatalf("%x, form %d: %x", l, f, got)
					}
				}
			}
		}
	}
}
