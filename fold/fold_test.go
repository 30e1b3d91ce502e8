package fold_test

import (
	"errors"
	"slices"
	"strings"
	"testing"

	"blazon/api"
	"blazon/fold"
)

// of is the foldings of a text that may be.
func of(t *testing.T, text string) *fold.Fold {
	t.Helper()
	f, e := fold.Of(text)
	if err := fold.Check(text); f == nil || e != api.OK || err != nil {
		t.Fatalf("%.300q: %v %v", text, e, err)
	}
	return f
}

// is fails the test unless what is wrong with a text is told so.
func is(t *testing.T, text string, line int, why api.Errno) {
	t.Helper()
	f, e := fold.Of(text)
	err := fold.Check(text)
	var at *api.TableError
	if f != nil || e != why || err == nil || !errors.As(err, &at) || !errors.Is(err, why) {
		t.Errorf("%.300q: %v %v", text, e, err)
		return
	}
	if *at != (api.TableError{Table: "folding", Line: line, Why: why}) {
		t.Errorf("%.300q: %v, not line %d", text, *at, line)
	}
}

func TestP6_1May(t *testing.T) {
	for _, text := range []string{
		"", "# x", "0041; C; 0061; # A", "0041;C;0061", "00DF;F;0073 0073", "0041;F;0061 0062 0063", "0041;S;0061", "0041;T;0061;x;y;z",
		"0041;C;0061\n0041;T;0062", "0041;F;0061 0062\n0041;S;0061\n0041;T;0063", "0042;C;0062\n0041;C;0061", "0041;C;0041", "D7FF;C;E000", "E000;F;D7FF E000", "10ffff;C;00000",
	} {
		of(t, text)
	}
	for _, line := range []string{
		"0041", "0041;C", "0041;C;", ";C;0061", "0041;;0061", "0041;c;0061", "0041;CC;0061", "0041;X;0061", "0041;0061;C", "041;C;0061", "0041;C;061", "0041;C;x",
		"0041;C;0061 0062", "0041;S;0061 0062", "0041;T;0061 0062", "0041;F;0061", "0041;F;0061 0062 0063 0064", "0041;F;0061,0062", "0041..0042;C;0061", "110000;C;0061", "0041;C;110000", "0041 0042;C;0061",
		"D800;C;0061", "DFFF;T;0061", "0041;C;DBFF", "0041;F;0061 DC00", "0041;T;D800", "D800;S;0061",
	} {
		is(t, line, 1, api.ErrTable)
		is(t, "# a\n0030;C;0031\n\n"+line+"\n0030;C;0031", 4, api.ErrTable)
	}
}

func TestP6_1Twice(t *testing.T) {
	for _, x := range []struct{ first, second string }{
		{"C;0061", "C;0061"}, {"F;0061 0062", "F;0061 0063"}, {"S;0061", "S;0062"}, {"T;0061", "T;0061"},
		{"C;0061", "F;0061 0062"}, {"F;0061 0062", "C;0061"}, {"C;0061", "S;0061"}, {"S;0061", "C;0061"},
	} {
		is(t, "0041;"+x.first+"\n0042;C;0062\n0041;"+x.second+"\nx", 3, api.ErrTable)
		of(t, "0041;"+x.first+"\n0043;"+x.second)
	}
}

func TestP6_1Long(t *testing.T) {
	fill := strings.Repeat("\n", api.MaxTable)
	of(t, fill)
	is(t, fill+"\n", 0, api.ErrLong)
	is(t, "x"+fill, 0, api.ErrLong)
}

const some = "0041; C; 0061;\n00DF; F; 0073 0073;\n1E9E; F; 0073 0073;\n1E9E; S; 00DF;\n0049; C; 0069\n0049; T; 0131\n0130; T; 0069\n0050; S; 0070\n0051; C; 0051\nFB03; F; 0066 0066 0069\n"

func TestP6_2FullSimple(t *testing.T) {
	f := of(t, some)
	for r, want := range map[rune]struct {
		full   []rune
		simple rune
	}{
		0x41:   {[]rune{0x61}, 0x61},
		0xdf:   {[]rune{0x73, 0x73}, 0xdf},
		0x1e9e: {[]rune{0x73, 0x73}, 0xdf},
		0x49:   {[]rune{0x69}, 0x69},
		0x130:  {[]rune{0x130}, 0x130},
		0x50:   {[]rune{0x50}, 0x70},
		0x51:   {[]rune{0x51}, 0x51},
		0xfb03: {[]rune{0x66, 0x66, 0x69}, 0xfb03},
		0x61:   {[]rune{0x61}, 0x61},
		-1:     {[]rune{-1}, -1},
		0xd800: {[]rune{0xd800}, 0xd800},
	} {
		if l := f.Full(r); !slices.Equal(l, want.full) || f.Simple(r) != want.simple {
			t.Errorf("%x: %x %x", r, l, f.Simple(r))
		}
	}
	f.Full(0xdf)[0] = 0
	if l := f.Full(0xdf); l[0] != 0x73 {
		t.Error("an answer shares memory with the foldings")
	}
}

func TestP6_2Text(t *testing.T) {
	f := of(t, some)
	l := []rune{0x41, 0x20, 0xdf, 0x130, 0xfb03, 0x41}
	want := []rune{0x61, 0x20, 0x73, 0x73, 0x130, 0x66, 0x66, 0x69, 0x61}
	if got := f.Text(l...); !slices.Equal(got, want) || l[0] != 0x41 {
		t.Errorf("%x", got)
	}
	if got := f.Text(); len(got) != 0 {
		t.Errorf("%x", got)
	}
	same := []rune{0x20}
	f.Text(same...)[0] = 0
	if same[0] != 0x20 {
		t.Error("an answer shares memory with what was handed in")
	}
}

func TestP6_2All(t *testing.T) {
	f := of(t, some)
	over := f.All()
	for range 2 {
		var rising []rune
		for r, row := range over {
			rising = append(rising, r)
			if !slices.Equal(row, f.Full(r)) {
				t.Errorf("%x: %x", r, row)
			}
			row[0] = 0
		}
		if !slices.Equal(rising, []rune{0x41, 0x49, 0xdf, 0x1e9e, 0xfb03}) || f.Len() != 5 {
			t.Errorf("%x %d", rising, f.Len())
		}
	}
	many := 0
	for range over {
		if many++; many == 2 {
			break
		}
	}
	if many != 2 {
		t.Error(many)
	}
	if f = of(t, ""); f.Len() != 0 {
		t.Error(f.Len())
	}
}

func TestP6_2Still(t *testing.T) {
	for text, want := range map[string]bool{
		"":                              true,
		some:                            true,
		"0041;C;0061":                   true,
		"0041;C;0061\n0061;C;0062":      false,
		"0041;C;0042\n0042;C;0041":      false,
		"0041;F;0061 0062\n0062;C;0063": false,
		"0041;F;0061 0041":              false,
		"0041;C;0061\n0061;S;0062":      true,
		"0041;C;0061\n0061;T;0062":      true,
		"0041;C;0041":                   true,
		"0041;S;0061\n0061;C;0062":      true,
		"0041;C;0061\n0061;F;0061 0061": false,
		"0041;C;0061\n0061;C;0061":      true,
	} {
		f := of(t, text)
		if f.Still() != want {
			t.Errorf("%q: %v", text, f.Still())
		}
		// P6.3: where it is still, what is folded is folded to itself.
		l := []rune{0x41, 0x42, 0x61, 0x62, 0x63, 0xdf, 0x1e9e}
		once := f.Text(l...)
		if twice := f.Text(once...); f.Still() && !slices.Equal(once, twice) {
			t.Errorf("%q: %x %x", text, once, twice)
		}
	}
}

func TestP6_2NilAndZero(t *testing.T) {
	for _, f := range []*fold.Fold{nil, {}} {
		if l := f.Full(0x41); !slices.Equal(l, []rune{0x41}) || f.Simple(0x41) != 0x41 || !slices.Equal(f.Text(0x41, 0x42), []rune{0x41, 0x42}) || f.Len() != 0 {
			t.Errorf("%x %x", l, f.Simple(0x41))
		}
		for r := range f.All() {
			t.Errorf("%x", r)
		}
	}
}
