package ducet_test

import (
	"fmt"
	"slices"
	"strings"
	"testing"

	"blazon/api"
	"blazon/ducet"
)

// el is an element that is not variable.
func el(p, s, t uint16) api.Element { return api.Element{P: p, S: s, T: t} }

// variable is an element that is.
func variable(p, s, t uint16) api.Element { return api.Element{P: p, S: s, T: t, Variable: true} }

// of is the table of a text that may be.
func of(t *testing.T, text string) *ducet.Table {
	t.Helper()
	x, e := ducet.New(text)
	if x == nil || e != api.OK {
		t.Fatalf("%.300q: %v", text, e)
	}
	return x
}

// finds fails the test unless these are the elements of just some runes.
func finds(t *testing.T, x *ducet.Table, l []rune, want ...api.Element) {
	t.Helper()
	if got, is := x.Find(l...); !slices.Equal(got, want) || is != (len(want) > 0) {
		t.Errorf("%x: %v %v, not %v", l, got, is, want)
	}
}

func TestP13_1Lines(t *testing.T) {
	x := of(t, "@version 13.0.0 # x\n\n \t# y\n0061 ; [.1C47.0020.0002] # a\n"+
		"0063 0068 ; [.1C60.0020.0002]\n\t0041;[.1c47.0020.0008]\t\n000042\t \t;\t [*0209.0020.0002][.0000.0000.0000][.0000.0000.0002][.0000.0021.0002] \n"+
		"10fFfF 0000 0001 00Ab ; [.FFFF.ffff.FfFf]\n@implicitweights 17000..18AFF; FB00 # Tangut\n@version ;[;\n0044 ; [.0001.0001.0001]")
	finds(t, x, []rune{0x61}, el(0x1c47, 0x20, 2))
	finds(t, x, []rune{0x63, 0x68}, el(0x1c60, 0x20, 2))
	finds(t, x, []rune{0x41}, el(0x1c47, 0x20, 8))
	finds(t, x, []rune{0x42}, variable(0x209, 0x20, 2), el(0, 0, 0), el(0, 0, 2), el(0, 0x21, 2))
	finds(t, x, []rune{0x10ffff, 0, 1, 0xab}, el(0xffff, 0xffff, 0xffff))
	finds(t, x, []rune{0x44}, el(1, 1, 1))
	if x.Len() != 6 {
		t.Error(x.Len())
	}
	if of(t, "").Len() != 0 || of(t, "\n\n").Len() != 0 {
		t.Error("nothing has lines")
	}
	eighteen := strings.Repeat("[.0001.0002.0003]", 18)
	if l, is := of(t, "0041;"+eighteen).Find(0x41); len(l) != 18 || !is {
		t.Error(len(l), is)
	}
}

func TestP13_1WrongLines(t *testing.T) {
	const e = "[.0001.0002.0003]"
	for _, line := range []string{
		"x", ";", "0061", "0061 ;", "; " + e, "061 ; " + e, "0000061 ; " + e, "0061, 0062 ; " + e, "110000 ; " + e, "D800 ; " + e, "0061 DFFF ; " + e, "006G ; " + e,
		"0061  0062 ; " + e, "0061\t0062 ; " + e, "0061 0062 0063 0064 0065 ; " + e, "0061 62 ; " + e, "00610062 ; " + e, "0061\r;" + e, "0061 ; " + e + "\r",
		"0061 ; " + e + " " + e, "0061 ; " + e + "x", "0061 ; x" + e, "0061 ;; " + e, "0061 ; " + strings.Repeat(e, 19),
		"0061 ; [.001.0002.0003]", "0061 ; [.00001.0002.0003]", "0061 ; [0001.0002.0003]", "0061 ; [.0001.0002]", "0061 ; [.0001.0002.0003.0004]", "0061 ; [.0001.0002.0003", "0061 ; .0001.0002.0003]", "0061 ; [+0001.0002.0003]", "0061 ; [..0001.0002.0003]", "0061 ; [.0001*0002.0003]", "0061 ; [.0001.0002.000G]", "0061 ; [ .0001.0002.0003]", "0061 ; []",
		"0061 ; [.0001.0000.0000]", "0061 ; [.0001.0002.0000]", "0061 ; [.0001.0000.0003]", "0061 ; [.0000.0002.0000]", "0061 ; [*0000.0000.0000]", "0061 ; [*0000.0000.0003]", "0061 ; [*0000.0002.0003]", "0061 ; [*0001.0002.0000]", "0061 ; " + e + "[.0001.0000.0000]",
		"@", "@version", "@Version 1", "@versions 1", "@other 1", "version 1", " x @version 1",
		"@implicitweights", "@implicitweights 0061..0062", "@implicitweights 0061..0062; FB0", "@implicitweights 0061..0062; FB000", "@implicitweights 0061..0062;FB00", "@implicitweights 0061..0062 ; FB00", "@implicitweights 0061..0062;  FB00", "@implicitweights  0061..0062; FB00", "@implicitweights\t0061..0062; FB00", "@implicitweights 0062..0061; FB00", "@implicitweights 0061; FB00", "@implicitweights 0061.0062; FB00", "@implicitweights 061..0062; FB00", "@implicitweights 0061..110000; FB00", "@implicitweights D800..E000; FB00", "@implicitweights 0061..DFFF; FB00", "@implicitweights 0061..0062; FB00 x", "@implicitweights 0061..0062; FBG0",
	} {
		for _, text := range []string{line, "0030 ; " + e + "\n" + line + "\n0031 ; " + e} {
			if x, err := ducet.New(text); x != nil || err != api.ErrTable {
				t.Errorf("%q: %v", text, err)
			}
		}
	}
}

func TestP13_1WrongTables(t *testing.T) {
	const e = " ; [.0001.0002.0003]\n"
	for text, want := range map[string]api.Errno{
		"0061" + e + "0062" + e + "0061" + e:                                                                      api.ErrTable,
		"0061" + e + "00061;[.0000.0000.0000]":                                                                    api.ErrTable,
		"0061 0062" + e + "0061 0062" + e:                                                                         api.ErrTable,
		"0061 0062" + e + "0061" + e + "0062" + e + "0062 0061" + e:                                               api.OK,
		"@implicitweights 0061..0065; FB00\n@implicitweights 0065..0070; FB00":                                    api.ErrTable,
		"@implicitweights 0070..0080; FB00\n@implicitweights 0061..0070; FB01":                                    api.ErrTable,
		"@implicitweights 0061..0090; FB00\n@implicitweights 0070..0071; FB00":                                    api.ErrTable,
		"@implicitweights 0061..0061; FB00\n@implicitweights 0061..0061; FB00":                                    api.ErrTable,
		"@implicitweights 0066..0070; FB00\n@implicitweights 0061..0065; 0000":                                    api.OK,
		"@implicitweights 0000..0000; FB00\n@implicitweights 10FFFF..10FFFF; FFFF\n0000" + e:                      api.OK,
		"@implicitweights 0001..0003; FB00\n@implicitweights 0009..000B; FB00\n@implicitweights 0004..0009; FB00": api.ErrTable,
	} {
		if _, err := ducet.New(text); err != want {
			t.Errorf("%q: %v, not %v", text, err, want)
		}
	}
	fill := strings.Repeat("\n", api.MaxTable)
	of(t, fill)
	for _, text := range []string{fill + "\n", "x" + fill} {
		if x, err := ducet.New(text); x != nil || err != api.ErrLong {
			t.Error(err)
		}
	}
}

func TestP13_1FindLongest(t *testing.T) {
	const e = " ; [.0001.0002.0003]\n"
	x := of(t, "0061"+e+"0061 0062"+e+"0061 0062 0063 0064"+e+"0063 0064"+e+"0000"+e)
	for _, l := range [][]rune{nil, {0x62}, {0x61, 0x62, 0x63}, {0x61, 0x62, 0x63, 0x64, 0x65}, {0x63}, {0x61, -1}, {-1}, {0x61, -1, -1, -1}, {0xd800}, {0x110000}, {0, 0}} {
		finds(t, x, l)
	}
	for _, q := range []struct {
		l    []rune
		want int
	}{
		{nil, 0}, {[]rune{0x61}, 1}, {[]rune{0x61, 0x61}, 1}, {[]rune{0x61, 0x62}, 2}, {[]rune{0x61, 0x62, 0x63}, 2}, {[]rune{0x61, 0x62, 0x63, 0x64}, 4}, {[]rune{0x61, 0x62, 0x63, 0x64, 0x65, 0x66}, 4}, {[]rune{0x61, 0x62, 0x63, 0x65}, 2}, {[]rune{0x63, 0x61}, 0}, {[]rune{0x63, 0x64, 0x61}, 2}, {[]rune{0x62, 0x61}, 0}, {[]rune{0, 0}, 1}, {[]rune{-1}, 0}, {[]rune{0x61, -1}, 1},
	} {
		if n := x.Longest(q.l...); n != q.want {
			t.Errorf("%x: %d, not %d", q.l, n, q.want)
		}
	}
	l, _ := x.Find(0x61)
	l[0].P = 99
	finds(t, x, []rune{0x61}, el(1, 2, 3))
}

func TestP13_2Implicit(t *testing.T) {
	x := of(t, "@implicitweights 17000..18AFF; FB00\n@implicitweights 1B170..1B2FF; FB01\n")
	for r, want := range map[rune][]api.Element{
		0x17000:  {el(0xfb00, 32, 2), el(0x8000, 0, 0)},
		0x18aff:  {el(0xfb00, 32, 2), el(0x9aff, 0, 0)},
		0x16fff:  {el(0xfbc0+2, 32, 2), el(0x6fff|0x8000, 0, 0)},
		0x18b00:  {el(0xfbc0+3, 32, 2), el(0x8b00, 0, 0)},
		0x1b170:  {el(0xfb01, 32, 2), el(0x8000, 0, 0)},
		0x1b2ff:  {el(0xfb01, 32, 2), el(0x818f, 0, 0)},
		0x1b300:  {el(0xfbc0+3, 32, 2), el(0xb300, 0, 0)},
		0:        {el(0xfbc0, 32, 2), el(0x8000, 0, 0)},
		0x61:     {el(0xfbc0, 32, 2), el(0x8061, 0, 0)},
		0x7fff:   {el(0xfb40, 32, 2), el(0xffff, 0, 0)},
		0x8000:   {el(0xfb41, 32, 2), el(0x8000, 0, 0)},
		0x10ffff: {el(0xfbc0+33, 32, 2), el(0xffff, 0, 0)},
		-1:       nil, -1 << 31: nil, 0xd800: nil, 0xdfff: nil, 0x110000: nil,
	} {
		if got := x.Implicit(r); !slices.Equal(got, want) {
			t.Errorf("%x: %v, not %v", r, got, want)
		}
	}
}

func TestP13_2Bases(t *testing.T) {
	x := of(t, "")
	bases := map[uint16][]rune{
		0xfb40: {0x4e00, 0x9fff, 0xfa0e, 0xfa0f, 0xfa11, 0xfa13, 0xfa14, 0xfa1f, 0xfa21, 0xfa23, 0xfa24, 0xfa27, 0xfa28, 0xfa29},
		0xfb80: {0x3400, 0x4dbf, 0x20000, 0x2a6df, 0x2a700, 0x2ebe0, 0x30000, 0x323af},
		0xfbc0: {0x33ff, 0x4dc0, 0x4dff, 0xa000, 0xfa0d, 0xfa10, 0xfa12, 0xfa15, 0xfa1e, 0xfa20, 0xfa22, 0xfa25, 0xfa26, 0xfa2a, 0x1ffff, 0x2a6e0, 0x2a6ff, 0x2ebe1, 0x2ffff, 0x323b0, 0x41, 0xd7ff, 0xe000, 0x10000},
	}
	for base, l := range bases {
		for _, r := range l {
			want := []api.Element{el(base+uint16(r>>15), 32, 2), el(uint16(r&0x7fff|0x8000), 0, 0)}
			if got := x.Implicit(r); !slices.Equal(got, want) || !slices.Equal(x.Of(r), want) {
				t.Errorf("%x: %v, not %v", r, got, want)
			}
		}
	}
	// A great range goes round behind 2^15 runes.
	x = of(t, "@implicitweights 10000..20000; 1234")
	for r, want := range map[rune]uint16{0x10000: 0x8000, 0x17fff: 0xffff, 0x18000: 0x8000, 0x20000: 0x8000} {
		if got := x.Implicit(r); !slices.Equal(got, []api.Element{el(0x1234, 32, 2), el(want, 0, 0)}) {
			t.Errorf("%x: %v", r, got)
		}
	}
	// A range goes ahead of what is counted else.
	x = of(t, "@implicitweights 4E10..4E11; 0000")
	if got := x.Implicit(0x4e11); !slices.Equal(got, []api.Element{el(0, 32, 2), el(0x8001, 0, 0)}) {
		t.Errorf("%v", got)
	}
}

func TestP13_2Of(t *testing.T) {
	x := of(t, "0061 ; [.0001.0002.0003][*0004.0005.0006]\n0062 0063 ; [.0001.0002.0003]\n4E00 ; [.0009.0009.0009]")
	if got := x.Of(0x61); !slices.Equal(got, []api.Element{el(1, 2, 3), variable(4, 5, 6)}) {
		t.Errorf("%v", got)
	}
	if got := x.Of(0x62); !slices.Equal(got, x.Implicit(0x62)) || len(got) != 2 {
		t.Errorf("%v", got)
	}
	if got := x.Of(0x4e00); !slices.Equal(got, []api.Element{el(9, 9, 9)}) || !slices.Equal(x.Implicit(0x4e00), []api.Element{el(0xfb40, 32, 2), el(0xce00, 0, 0)}) {
		t.Errorf("%v", got)
	}
	for _, r := range []rune{-1, 0xd800, 0x110000} {
		if got := x.Of(r); len(got) != 0 {
			t.Errorf("%x: %v", r, got)
		}
	}
	x.Of(0x61)[0].P = 99
	finds(t, x, []rune{0x61}, el(1, 2, 3), variable(4, 5, 6))
}

func TestP13_2All(t *testing.T) {
	const e = " ; [.0001.0002.0003]\n"
	x := of(t, "0062"+e+"0061 0062"+e+"10000"+e+"0061"+e+"FFFF"+e+"0061 0062 0001"+e+"0061 0001 FFFF"+e+"0063 0061"+e)
	want := [][]rune{{0x61}, {0x61, 1, 0xffff}, {0x61, 0x62}, {0x61, 0x62, 1}, {0x62}, {0x63, 0x61}, {0xffff}, {0x10000}}
	over := x.All()
	for range 2 {
		at := 0
		for l, elements := range over {
			if at >= len(want) || !slices.Equal(l, want[at]) || !slices.Equal(elements, []api.Element{el(1, 2, 3)}) {
				t.Fatalf("%d: %x %v", at, l, elements)
			}
			l[0], elements[0].P = 99, 99
			at++
		}
		if at != len(want) || x.Len() != len(want) {
			t.Error(at, x.Len())
		}
	}
	many := 0
	for range over {
		if many++; many == 3 {
			break
		}
	}
	if many != 3 {
		t.Error(many)
	}
}

func TestP13_2NilAndZero(t *testing.T) {
	for _, x := range []*ducet.Table{nil, {}} {
		finds(t, x, []rune{0x61})
		if x.Longest(0x61) != 0 || len(x.Implicit(0x61)) != 0 || len(x.Of(0x61)) != 0 || x.Len() != 0 {
			t.Error("nothing has something")
		}
		for l := range x.All() {
			t.Errorf("%x", l)
		}
	}
}

func TestP13_3Text(t *testing.T) {
	l := []api.Weighed{
		{Runes: []rune{0x63, 0x10ffff}, Elements: []api.Element{el(0x1c60, 0x20, 2)}},
		{Runes: []rune{0x61}, Elements: []api.Element{variable(0xabcd, 0x20, 2), el(0, 0, 0), el(0, 0, 2), el(0, 1, 2)}},
		{Runes: []rune{0, 1, 2, 3}, Elements: []api.Element{el(1, 1, 1)}},
	}
	const want = "0063 10FFFF ; [.1C60.0020.0002]\n0061 ; [*ABCD.0020.0002][.0000.0000.0000][.0000.0000.0002][.0000.0001.0002]\n0000 0001 0002 0003 ; [.0001.0001.0001]\n"
	s, e := ducet.Text(l...)
	if s != want || e != api.OK {
		t.Errorf("%q %v", s, e)
	}
	x := of(t, s)
	for _, w := range l {
		finds(t, x, w.Runes, w.Elements...)
	}
	if x.Len() != len(l) {
		t.Error(x.Len())
	}
	if s, e := ducet.Text(); s != "" || e != api.OK {
		t.Errorf("%q %v", s, e)
	}
}

func TestP13_3WrongTexts(t *testing.T) {
	good := []api.Element{el(1, 2, 3)}
	ok := api.Weighed{Runes: []rune{0x61}, Elements: good}
	for i, w := range []api.Weighed{
		{}, {Elements: good}, {Runes: []rune{0x62}}, {Runes: []rune{1, 2, 3, 4, 5}, Elements: good},
		{Runes: []rune{-1}, Elements: good}, {Runes: []rune{0xd800}, Elements: good}, {Runes: []rune{0x62, 0xdfff}, Elements: good}, {Runes: []rune{0x110000}, Elements: good},
		{Runes: []rune{0x62}, Elements: make([]api.Element, 19)},
		{Runes: []rune{0x62}, Elements: []api.Element{el(1, 0, 0)}}, {Runes: []rune{0x62}, Elements: []api.Element{el(1, 2, 0)}}, {Runes: []rune{0x62}, Elements: []api.Element{el(1, 0, 3)}}, {Runes: []rune{0x62}, Elements: []api.Element{el(0, 2, 0)}},
		{Runes: []rune{0x62}, Elements: []api.Element{variable(0, 0, 0)}}, {Runes: []rune{0x62}, Elements: []api.Element{variable(0, 2, 3)}}, {Runes: []rune{0x62}, Elements: []api.Element{el(1, 2, 3), variable(0, 0, 3)}},
		ok,
	} {
		for _, l := range [][]api.Weighed{{ok, w}, {w, ok}} {
			if s, e := ducet.Text(l...); s != "" || e != api.ErrTable {
				t.Errorf("%d: %q %v", i, s, e)
			}
		}
	}
}

func TestP13_3BackAgain(t *testing.T) {
	var l []api.Weighed
	for i := range 3000 {
		runes := []rune{rune(i)}
		for n := range i % 4 {
			runes = append(runes, rune(n*1000+i%7))
		}
		l = append(l, api.Weighed{Runes: runes, Elements: []api.Element{el(uint16(i+1), 1, 1), variable(1, uint16(i+1), 0xffff)}[:1+i%2]})
	}
	s, e := ducet.Text(l...)
	if e != api.OK {
		t.Fatal(e)
	}
	x := of(t, s)
	for _, w := range l {
		finds(t, x, w.Runes, w.Elements...)
	}
	var again []api.Weighed
	for runes, elements := range x.All() {
		again = append(again, api.Weighed{Runes: runes, Elements: elements})
	}
	if !slices.IsSortedFunc(again, func(a, b api.Weighed) int { return slices.Compare(a.Runes, b.Runes) }) || len(again) != len(l) {
		t.Error("the lines do not rise")
	}
	if fmt.Sprint(again[0].Runes) != "[0]" {
		t.Error(again[0])
	}
}
