package fields_test

import (
	"slices"
	"strconv"
	"strings"
	"testing"

	"blazon/fields"
)

// lines are a text's lines as one text: number, fields between bars.
func lines(text string) string {
	var l []string
	for n, f := range fields.Lines(text) {
		l = append(l, strconv.Itoa(n)+":"+strings.Join(f, "|"))
	}
	return strings.Join(l, "\n")
}

func TestP3_1Lines(t *testing.T) {
	for _, x := range []struct{ text, want string }{
		{"", ""},
		{"\n\n", ""},
		{" \t\r\n#a;b\n  # c", ""},
		{"a", "1:a"},
		{"a\n", "1:a"},
		{"0041 ; a b ;; # x", "1:0041|a b||"},
		{"\n\na;b\n\nc", "3:a|b\n5:c"},
		{"# x\na # y;z\n#\nb;#\n", "2:a\n4:b|"},
		{";", "1:|"},
		{" ; ", "1:|"},
		{"\ta\t b \r;\r\tc\t\r\n", "1:a\t b|c"},
		{"a\rb\nc\r\n", "1:a\rb\n2:c"},
		{"a##b\n#\n##c", "1:a"},
		{"\va;\u00a0b\n", "1:\va|\u00a0b"},
		{"\xff;\x00", "1:\xff|\x00"},
		{"a;b;c;d;e;f;g;h", "1:a|b|c|d|e|f|g|h"},
	} {
		if got := lines(x.text); got != x.want {
			t.Errorf("%q: %q, not %q", x.text, got, x.want)
		}
		if n := strings.Count(x.want, "\n") + 1; x.want != "" && fields.Count(x.text) != n || x.want == "" && fields.Count(x.text) != 0 {
			t.Errorf("%q: %d lines", x.text, fields.Count(x.text))
		}
	}
}

func TestP3_1LeftAndAgain(t *testing.T) {
	over := fields.Lines("a;1\n#\nb;2\nc;3")
	many := 0
	for n, f := range over {
		many++
		f[0] = "changed"
		if n == 3 {
			break
		}
	}
	if many != 2 {
		t.Error(many)
	}
	for range 2 {
		var got []string
		for n, f := range over {
			got = append(got, strconv.Itoa(n)+f[0]+f[1])
		}
		if !slices.Equal(got, []string{"1a1", "3b2", "4c3"}) {
			t.Error(got)
		}
	}
}

func TestP3_2Code(t *testing.T) {
	for s, want := range map[string]rune{
		"0000": 0, "0041": 0x41, "00e9": 0xe9, "00E9": 0xe9, "aBcD": 0xabcd, "D800": 0xd800, "dfff": 0xdfff, "FFFF": 0xffff,
		"1F600": 0x1f600, "00041": 0x41, "000041": 0x41, "10FFFF": 0x10ffff, "10ffff": 0x10ffff,
	} {
		if r, is := fields.Code(s); r != want || !is {
			t.Errorf("%q: %x %v", s, r, is)
		}
	}
	for _, s := range []string{
		"", "0", "041", "0000041", "110000", "FFFFFF", "004G", "004g", "00 41", " 0041", "0041 ", "0041;", "-041", "+0041", "0x41", "0041..0042", "004/", "004:", "004@", "004`", "\uff10041", "004\xff", "0_41",
	} {
		if r, is := fields.Code(s); r != 0 || is {
			t.Errorf("%q: %x %v", s, r, is)
		}
	}
}

func TestP3_2Range(t *testing.T) {
	for _, x := range []struct {
		s      string
		lo, hi rune
	}{
		{"0041", 0x41, 0x41}, {"0041..005A", 0x41, 0x5a}, {"0041..0041", 0x41, 0x41}, {"0000..10ffff", 0, 0x10ffff}, {"d800..DFFF", 0xd800, 0xdfff},
	} {
		if lo, hi, is := fields.Range(x.s); lo != x.lo || hi != x.hi || !is {
			t.Errorf("%q: %x %x %v", x.s, lo, hi, is)
		}
	}
	for _, s := range []string{
		"", "..", "0041..", "..0041", "0042..0041", "0041.0042", "0041...0042", "0041..0042..0043", "0041 ..0042", "0041.. 0042", "0041-0042", "041..042", "0041..110000", " 0041..0042", "0041..0042 ",
	} {
		if lo, hi, is := fields.Range(s); lo != 0 || hi != 0 || is {
			t.Errorf("%q: %x %x %v", s, lo, hi, is)
		}
	}
}

func TestP3_2Row(t *testing.T) {
	for _, x := range []struct {
		s    string
		want []rune
	}{
		{"0041", []rune{0x41}}, {"0041 0042", []rune{0x41, 0x42}}, {"0041  \t\r 10FFFF\t0000", []rune{0x41, 0x10ffff, 0}},
	} {
		if l, is := fields.Row(x.s); !slices.Equal(l, x.want) || !is {
			t.Errorf("%q: %x %v", x.s, l, is)
		}
	}
	for _, s := range []string{
		"", " ", "\t", " 0041", "0041 ", "\r0041", "0041\t", "0041,0042", "0041 42", "0041 0042 x", "0041\v0042", "0041\n0042", "0041\u00a00042", "00410042", "0041 110000",
	} {
		if l, is := fields.Row(s); len(l) != 0 || is {
			t.Errorf("%q: %x %v", s, l, is)
		}
	}
}

func TestP3_3Texts(t *testing.T) {
	for r, want := range map[rune]string{
		0: "0000", 0x41: "0041", 0xabc: "0ABC", 0xffff: "FFFF", 0x10000: "10000", 0xabcde: "ABCDE", 0x10ffff: "10FFFF", 0xd800: "D800", -1: "", 0x110000: "", -1 << 31: "", 1<<31 - 1: "",
	} {
		if s := fields.CodeText(r); s != want {
			t.Errorf("%x: %q", r, s)
		}
	}
	if s := fields.RowText(); s != "" {
		t.Errorf("%q", s)
	}
	if s := fields.RowText(0x41); s != "0041" {
		t.Errorf("%q", s)
	}
	if s := fields.RowText(0x41, 0x10ffff, 0xe9); s != "0041 10FFFF 00E9" {
		t.Errorf("%q", s)
	}
}

func TestP3_4BackAgain(t *testing.T) {
	for r := rune(0); r <= 0x10ffff; r++ {
		if x, is := fields.Code(fields.CodeText(r)); x != r || !is {
			t.Fatalf("%x: %x %v", r, x, is)
		}
	}
	for _, l := range [][]rune{{0}, {0x41, 0x42}, {0x10ffff, 0, 0xd800, 0x1f600}} {
		if x, is := fields.Row(fields.RowText(l...)); !slices.Equal(x, l) || !is {
			t.Errorf("%x: %x %v", l, x, is)
		}
	}
}

func TestP3_4OthersStay(t *testing.T) {
	got := func(text string) (all [][]string) {
		for _, f := range fields.Lines(text) {
			all = append(all, f)
		}
		return all
	}
	want := got("a;b\nc;d\n")
	for _, text := range []string{"\na;b\n\nc;d", "# x\na;b# ;;\n# y;\nc;d\n#", " a ; b\t\n \t\r\nc\r;d\r\n", "a;b\r\nc;d\r\n"} {
		l := got(text)
		if len(l) != len(want) {
			t.Errorf("%q: %q", text, l)
			continue
		}
		for i := range l {
			if !slices.Equal(l[i], want[i]) {
				t.Errorf("%q: %q", text, l)
			}
		}
	}
}
