package ucd_test

import (
	"errors"
	"fmt"
	"slices"
	"strings"
	"testing"

	"blazon/api"
	"blazon/ucd"
)

// row is a line of the data.
func row(code, name, category, class, apart string) string {
	return code + ";" + name + ";" + category + ";" + class + ";L;" + apart + ";;;;N;;;;;\n"
}

// plain is a line of a code point with a class, and a decomposition.
func plain(code, class, apart string) string { return row(code, "A NAME", "Lu", class, apart) }

// of is the data of texts that may be.
func of(t *testing.T, text, exclusions string) *ucd.Data {
	t.Helper()
	d, e := ucd.Of(text, exclusions)
	if d == nil || e != api.OK {
		t.Fatalf("%v", ucd.Check(text, exclusions))
	}
	if err := ucd.Check(text, exclusions); err != nil {
		t.Fatal(err)
	}
	return d
}

// is fails the test unless what is wrong with texts is told so.
func is(t *testing.T, text, exclusions, table string, line int, why api.Errno) {
	t.Helper()
	d, e := ucd.Of(text, exclusions)
	err := ucd.Check(text, exclusions)
	var at *api.TableError
	if d != nil || e != why || err == nil || !errors.As(err, &at) || !errors.Is(err, why) {
		t.Errorf("%.300q %.300q: %v %v", text, exclusions, e, err)
		return
	}
	if *at != (api.TableError{Table: table, Line: line, Why: why}) {
		t.Errorf("%.300q %.300q: %v, not line %d of %s", text, exclusions, *at, line, table)
	}
}

const acute = "0301;ACUTE;Mn;230;NSM;;;;;N;;;;;\n"

func TestP5_1Example(t *testing.T) {
	d := of(t, "00E1;A ACUTE;Ll;0;L;0061 0301;;;;N;;;;;\n"+acute, "")
	if d.Class(0x301) != 230 || d.Class(0xe1) != 0 || d.Category(0xe1) != "Ll" || d.Category(0x301) != "Mn" || d.Len() != 2 {
		t.Error(d.Class(0x301), d.Class(0xe1), d.Category(0xe1), d.Len())
	}
	if l, canonical := d.Decomposition(0xe1); !slices.Equal(l, []rune{0x61, 0x301}) || !canonical {
		t.Error(l, canonical)
	}
}

func TestP5_1Lines(t *testing.T) {
	good := plain("0041", "0", "")
	for i, l := range []string{
		"", "\n", "# x\n", good, " 0041 ;; Zz ; 254 ;;; ;;;;;;;;\n", "0041;<x>;Lu;0;;;;;;;;;;;", "0041;<x, First>y;Lu;0;;;;;;;;;;;",
		"0041;, First>;Lu;0;;;;;;;;;;;", "0041;, Last>;Lu;0;;;;;;;;;;;", "0041;<x, Last;Lu;0;;;;;;;;;;;", "0041;<x,First>;Lu;0;;;;;;;;;;;",
		"0041;a;Lu;0;;0042;;;;;;;;;", "0041;a;Lu;0;;0042 \t\r 0043;;;;;;;;;", "0041;a;Lu;0;;<a>0042;;;;;;;;;", "0041;a;Lu;0;;<aZ> \t\r0042;;;;;;;;;",
		"0041;a;Aa;0;;;;;;;;;;;", "0041;a;Lu;0;;<AZaz> 0042;;;;;;;;;", "0041;a;Lu;0;;D7FF E000;;;;;;;;;", "D800;a;Cs;0;;;;;;;;;;;", "10FFFF;a;Co;9;;<x> " + strings.Repeat("0042 ", 17) + "0042;;;;;;;;;", "00e1;a;Lu;10;;;;;;;;;;;", "0041;a;Lu;200;;;;;;;;;;;",
	} {
		if err := ucd.Check(l, ""); err != nil {
			t.Errorf("%d: %q: %v", i, l, err)
		}
	}
	for _, l := range []string{
		";a;Lu;0;;;;;;;;;;;", "041;a;Lu;0;;;;;;;;;;;", "110000;a;Lu;0;;;;;;;;;;;", "0041..0042;a;Lu;0;;;;;;;;;;;", "0041 0042;a;Lu;0;;;;;;;;;;;",
		"0041", "0041;a;Lu;0;;;;;;;;;;", "0041;a;Lu;0;;;;;;;;;;;;",
		"0041;a;;0;;;;;;;;;;;", "0041;a;L;0;;;;;;;;;;;", "0041;a;lu;0;;;;;;;;;;;", "0041;a;LU;0;;;;;;;;;;;", "0041;a;Luu;0;;;;;;;;;;;", "0041;a;L1;0;;;;;;;;;;;", "0041;a;[u;0;;;;;;;;;;;", "0041;a;@u;0;;;;;;;;;;;", "0041;a;L{;0;;;;;;;;;;;", "0041;a;L`;0;;;;;;;;;;;", "0041;a;\u00c4;0;;;;;;;;;;;",
		"0041;a;Lu;;;;;;;;;;;;", "0041;a;Lu;00;;;;;;;;;;;", "0041;a;Lu;01;;;;;;;;;;;", "0041;a;Lu;255;;;;;;;;;;;", "0041;a;Lu;1000;;;;;;;;;;;", "0041;a;Lu;-1;;;;;;;;;;;", "0041;a;Lu;+1;;;;;;;;;;;", "0041;a;Lu;1 0;;;;;;;;;;;", "0041;a;Lu;a;;;;;;;;;;;", "0041;a;Lu;99999999999999999999;;;;;;;;;;;", "0041;a;Lu;\u0661;;;;;;;;;;;",
		"0041;a;Lu;0;;x;;;;;;;;;", "0041;a;Lu;0;;0042 0043 0044;;;;;;;;;", "0041;a;Lu;0;;<a>;;;;;;;;;", "0041;a;Lu;0;;<> 0042;;;;;;;;;", "0041;a;Lu;0;;<a 0042;;;;;;;;;", "0041;a;Lu;0;;<a1> 0042;;;;;;;;;", "0041;a;Lu;0;;<a b> 0042;;;;;;;;;", "0041;a;Lu;0;;<\u00e4> 0042;;;;;;;;;", "0041;a;Lu;0;;<a> " + strings.Repeat("0042 ", 18) + "0042;;;;;;;;;", "0041;a;Lu;0;;a> 0042;;;;;;;;;", "0041;a;Lu;0;;0042 <a>;;;;;;;;;", "0041;a;Lu;0;;<a> <b> 0042;;;;;;;;;", "0041;a;Lu;0;;0042,0043;;;;;;;;;",
		"0041;a;Lu;0;;D800;;;;;;;;;", "0041;a;Lu;0;;0042 DFFF;;;;;;;;;", "0041;a;Lu;0;;<a> 0042 DABC;;;;;;;;;",
	} {
		is(t, l, "", "data", 1, api.ErrTable)
		is(t, "# x\n"+plain("0031", "0", "")+"\n"+l+"\n"+plain("0030", "0", ""), "wrong", "data", 4, api.ErrTable)
	}
}

func TestP5_1Rising(t *testing.T) {
	of(t, plain("0000", "0", "")+plain("0001", "0", "")+plain("10FFFF", "0", ""), "")
	is(t, plain("0041", "0", "")+plain("0041", "0", ""), "", "data", 2, api.ErrTable)
	is(t, plain("0041", "0", "")+plain("0042", "0", "")+plain("0040", "0", ""), "", "data", 3, api.ErrTable)
	first, last := row("0050", "<x, First>", "Lo", "0", ""), row("0060", "<x, Last>", "Lo", "0", "")
	is(t, first+last+plain("0060", "0", ""), "", "data", 3, api.ErrTable)
	is(t, first+last+plain("0055", "0", ""), "", "data", 3, api.ErrTable)
	is(t, plain("0050", "0", "")+first+last, "", "data", 2, api.ErrTable)
	is(t, first+row("0050", "<x, Last>", "Lo", "0", ""), "", "data", 2, api.ErrTable)
	is(t, first+row("004F", "<x, Last>", "Lo", "0", ""), "", "data", 2, api.ErrTable)
}

func TestP5_1Ranges(t *testing.T) {
	first := row("0050", "<x, First>", "Lo", "7", "")
	d := of(t, first+"\n# x\n"+row("0060", "<x, Last>", "Lo", "7", "")+plain("0061", "0", ""), "")
	for r := rune(0x4f); r <= 0x62; r++ {
		in := r >= 0x50 && r <= 0x60
		if d.Named(r) != (in || r == 0x61) || in && (d.Category(r) != "Lo" || d.Class(r) != 7) {
			t.Errorf("%x: %v %q %d", r, d.Named(r), d.Category(r), d.Class(r))
		}
	}
	if d.Len() != 18 {
		t.Error(d.Len())
	}
	of(t, row("0050", "<, First>", "Lo", "0", "")+row("0051", "<, Last>", "Lo", "0", ""), "")
	of(t, row("0050", "<a, First>, First>", "Lo", "0", "")+row("0051", "<a, First>, Last>", "Lo", "0", ""), "")
	for _, last := range []string{
		row("0060", "<y, Last>", "Lo", "7", ""), row("0060", "<X, Last>", "Lo", "7", ""), row("0060", "<x , Last>", "Lo", "7", ""), row("0060", "x, Last>", "Lo", "7", ""), row("0060", "<x, Last> y", "Lo", "7", ""),
		row("0060", "<x, First>", "Lo", "7", ""), row("0060", "A", "Lo", "7", ""),
		row("0060", "<x, Last>", "Lu", "7", ""), row("0060", "<x, Last>", "Lo", "8", ""), row("0060", "<x, Last>", "Lo", "7", "0061"), row("0060", "<x, Last>", "Lo", "7", "<a> 0061"), "nonsense\n",
	} {
		is(t, first+"\n"+last, "", "data", 3, api.ErrTable)
	}
	is(t, row("0050", "<x, First>", "Lo", "7", "0040")+row("0060", "<x, Last>", "Lo", "7", ""), "", "data", 2, api.ErrTable)
	is(t, row("0050", "<x, First>", "Lo", "7", "0040")+row("0060", "<x, Last>", "Lo", "7", "0040"), "", "data", 2, api.ErrTable)
	is(t, plain("0040", "0", "")+first, "", "data", 2, api.ErrTable)
	is(t, plain("0040", "0", "")+first+"\n# x\n", "", "data", 2, api.ErrTable)
	is(t, row("0050", "<x, First>", "Lo", "7", "0040"), "", "data", 1, api.ErrTable)
	is(t, plain("0040", "0", "")+row("0060", "<x, Last>", "Lo", "7", ""), "", "data", 2, api.ErrTable)
	is(t, first+row("0060", "<x, Last>", "Lo", "7", "")+row("0070", "<x, Last>", "Lo", "7", ""), "", "data", 3, api.ErrTable)
	is(t, row("0050", "<x, First>", "lo", "7", "")+"nonsense", "", "data", 1, api.ErrTable)
}

func TestP5_1Hangul(t *testing.T) {
	text := ""
	for _, c := range []string{"1100", "1112", "1161", "1175", "11A7", "11C2", "AC00", "D7A3"} {
		is(t, plain("0041", "0", "")+plain(c, "1", ""), "", "data", 2, api.ErrTable)
		is(t, plain(c, "0", "0041"), "", "data", 1, api.ErrTable)
		is(t, plain(c, "0", "<a> 0041"), "", "data", 1, api.ErrTable)
		text += plain(c, "0", "")
	}
	of(t, text, "")
	text = ""
	for _, c := range []string{"10FF", "1113", "1160", "1176", "11A6", "11C3", "ABFF", "D7A4"} {
		text += plain(c, "9", "<a> 0041")
	}
	of(t, text, "")
	pair := func(lo, hi, class, apart string) string {
		return row(lo, "<x, First>", "Lo", class, apart) + row(hi, "<x, Last>", "Lo", class, "")
	}
	of(t, pair("1000", "2000", "0", "")+pair("A000", "E000", "0", ""), "")
	of(t, pair("1113", "1160", "5", "")+pair("1176", "11A6", "5", "")+pair("11C3", "ABFF", "5", "")+pair("D7A4", "E000", "5", ""), "")
	is(t, pair("10FF", "1100", "5", ""), "", "data", 2, api.ErrTable)
	is(t, pair("1000", "2000", "5", ""), "", "data", 2, api.ErrTable)
	is(t, pair("11C0", "2000", "5", ""), "", "data", 1, api.ErrTable)
	is(t, pair("D7A0", "D800", "5", ""), "", "data", 1, api.ErrTable)
	is(t, pair("AC00", "D7A3", "0", "0041"), "", "data", 1, api.ErrTable)
	is(t, pair("ABFF", "D7A3", "0", "0041"), "", "data", 2, api.ErrTable)
	is(t, pair("1160", "1161", "0", "")+pair("D000", "D001", "1", ""), "", "data", 3, api.ErrTable)
}

func TestP5_1Exclusions(t *testing.T) {
	d := of(t, plain("0041", "0", "0042 0043"), "# x\n0041 ; y ; z # a\n\n0999")
	if !d.Excluded(0x41) || !d.Excluded(0x999) || d.Excluded(0x42) || d.Excluded(0) || d.Excluded(-1) || d.Named(0x999) {
		t.Error("excluded")
	}
	if _, is := d.Pair(0x42, 0x43); is {
		t.Error("what is excluded is put together")
	}
	for _, l := range []string{"041", "x", ";0041", "0041..0042", "0041 0042", "110000"} {
		is(t, "", "0001\n\n"+l, "exclusions", 3, api.ErrTable)
	}
	is(t, "", "0041\n0042\n 0041;x\n", "exclusions", 3, api.ErrTable)
	is(t, "", "0041\n0041\nx", "exclusions", 2, api.ErrTable)
	is(t, "x", "x", "data", 1, api.ErrTable)
	is(t, plain("0041", "0", "0041"), "x", "exclusions", 1, api.ErrTable)
}

func TestP5_1Long(t *testing.T) {
	fill := strings.Repeat(" ", api.MaxTable)
	of(t, fill, fill)
	is(t, fill+" ", "", "data", 0, api.ErrLong)
	is(t, "", fill+" ", "exclusions", 0, api.ErrLong)
	is(t, fill+" ", fill+" ", "data", 0, api.ErrLong)
	is(t, "x", fill+" ", "exclusions", 0, api.ErrLong)
	is(t, "x"+fill, "", "data", 0, api.ErrLong)
}

func TestP5_1Whole(t *testing.T) {
	is(t, plain("0041", "0", "0041"), "", "data", 0, api.ErrTable)
	is(t, plain("0041", "0", "<a> 0030 0041"), "", "data", 0, api.ErrTable)
	is(t, plain("0041", "0", "0042 0030")+plain("0042", "0", "<a> 0043")+plain("0043", "0", "0030 0041"), "", "data", 0, api.ErrTable)
	is(t, plain("0041", "0", "0042")+plain("0042", "0", "0043")+plain("0043", "0", "0042"), "", "data", 0, api.ErrTable)
	of(t, plain("0041", "0", "0042 0042")+plain("0042", "0", "0043 0043")+plain("0043", "0", "0044"), "")
	// 0041 comes to twice as many with each line: 2, 4, ...
	text := func(lines int) string {
		s := ""
		for i := range lines {
			s += plain(fmt.Sprintf("%04X", 0x41+i), "0", fmt.Sprintf("%04X %04X", 0x42+i, 0x42+i))
		}
		return s
	}
	of(t, text(5), "")
	is(t, text(6), "", "data", 0, api.ErrTable)
	is(t, text(5)+plain("0100", "0", "0041 0030"), "", "data", 0, api.ErrTable)
	is(t, text(5)+plain("0100", "0", "0030 0041"), "", "data", 0, api.ErrTable)
	of(t, text(5)+plain("0100", "0", "0041"), "")
	is(t, plain("0041", "0", "<a> "+strings.Repeat("0042 ", 16)+"0042")+plain("0042", "0", "0043 0044"), "", "data", 0, api.ErrTable)
	of(t, plain("0041", "0", "<a> "+strings.Repeat("0042 ", 15)+"0042")+plain("0042", "0", "0043 0044"), "")
}

func TestP5_1Pairs(t *testing.T) {
	two := plain("0100", "0", "0041 0301") + plain("0101", "0", "0041 0301")
	is(t, two, "", "data", 0, api.ErrTable)
	is(t, two, "0102", "data", 0, api.ErrTable)
	of(t, two, "0100")
	of(t, two, "0101")
	of(t, two, "0100\n0101")
	of(t, plain("0041", "1", "")+two, "")
	of(t, plain("0100", "0", "0041 0301")+plain("0101", "7", "0041 0301"), "")
	of(t, plain("0100", "0", "0041 0301")+plain("0101", "0", "<a> 0041 0301"), "")
	of(t, plain("0100", "0", "0041 0301")+plain("0101", "0", "0301 0041"), "")
	of(t, plain("0100", "0", "0041")+plain("0101", "0", "0041"), "")
}

func TestP5_1LongChains(t *testing.T) {
	var b strings.Builder
	for r := 0x10000; r < 0x10000+200000; r++ {
		b.WriteString(plain(fmt.Sprintf("%04X", r), "0", fmt.Sprintf("%04X", r+1)))
		if b.Len() > api.MaxTable-100 {
			break
		}
	}
	d := of(t, b.String(), "")
	if l, canonical := d.Decomposition(0x10000); !slices.Equal(l, []rune{0x10001}) || !canonical {
		t.Error(l, canonical)
	}
}

func TestP5_2Looks(t *testing.T) {
	d := of(t, plain("0041", "0", "")+plain("0042", "254", "")+plain("0043", "1", "<x> 0041 0042 0030")+plain("0044", "0", "0041")+row("10FFFF", "", "Zs", "3", "0041 0042"), "")
	for r, want := range map[rune]struct {
		category  string
		class     int
		apart     []rune
		canonical bool
	}{
		0x41: {"Lu", 0, nil, false}, 0x42: {"Lu", 254, nil, false}, 0x43: {"Lu", 1, []rune{0x41, 0x42, 0x30}, false}, 0x44: {"Lu", 0, []rune{0x41}, true}, 0x10ffff: {"Zs", 3, []rune{0x41, 0x42}, true},
		0x40: {}, 0x45: {}, 0: {}, -1: {}, 0x110000: {}, 1<<31 - 1: {}, 0xac00: {},
	} {
		l, canonical := d.Decomposition(r)
		if d.Category(r) != want.category || d.Class(r) != want.class || !slices.Equal(l, want.apart) || canonical != want.canonical || d.Named(r) != (want.category != "") {
			t.Errorf("%x: %q %d %x %v %v", r, d.Category(r), d.Class(r), l, canonical, d.Named(r))
		}
	}
	if d.Len() != 5 || of(t, "", "").Len() != 0 {
		t.Error(d.Len())
	}
	l, _ := d.Decomposition(0x43)
	l[0] = 0
	if l, _ = d.Decomposition(0x43); l[0] != 0x41 {
		t.Error("an answer shares memory with the data")
	}
}

func TestP5_2NilAndZero(t *testing.T) {
	for _, d := range []*ucd.Data{nil, {}} {
		l, canonical := d.Decomposition(0x41)
		r, is := d.Pair(0x41, 0x301)
		if d.Category(0x41) != "" || d.Class(0x41) != 0 || len(l) != 0 || canonical || r != 0 || is || d.Excluded(0x41) || d.Named(0x41) || d.Len() != 0 {
			t.Error("nothing has something")
		}
		for range d.Composites() {
			t.Error("nothing has a composite")
		}
	}
}

func TestP5_3PairsComposites(t *testing.T) {
	d := of(t, plain("0041", "0", "")+
		plain("00C0", "0", "0041 0300")+ // a composite
		plain("00C1", "0", "0041 0301")+ // excluded
		plain("00C2", "0", "0041")+ // of one
		plain("00C3", "0", "<a> 0041 0303")+ // compatible
		plain("00C4", "7", "0041 0304")+ // of a class
		plain("00C5", "0", "0305 0041")+ // its first one has a class
		plain("00C6", "0", "0042 0043")+ // a composite of unnamed ones
		plain("0305", "230", "")+
		plain("1000", "0", "00C0 0305"), // a composite of a composite
		"00C1\n00C7")
	want := map[rune][2]rune{0xc0: {0x41, 0x300}, 0xc6: {0x42, 0x43}, 0x1000: {0xc0, 0x305}}
	over := d.Composites()
	for range 2 {
		var rising []rune
		for r, pair := range over {
			rising = append(rising, r)
			if pair != want[r] {
				t.Errorf("%x: %x", r, pair)
			}
		}
		if !slices.Equal(rising, []rune{0xc0, 0xc6, 0x1000}) {
			t.Errorf("%x", rising)
		}
	}
	many := 0
	for range over {
		many++
		break
	}
	if many != 1 {
		t.Error(many)
	}
	for r, pair := range want {
		if x, is := d.Pair(pair[0], pair[1]); x != r || !is {
			t.Errorf("%x: %x %v", pair, x, is)
		}
		if x, is := d.Pair(pair[1], pair[0]); x != 0 || is {
			t.Errorf("%x: %x %v", pair, x, is)
		}
	}
	for _, pair := range [][2]rune{{0x41, 0x301}, {0x41, 0}, {0x41, 0x303}, {0x41, 0x304}, {0x305, 0x41}, {0x41, 0x41}, {-1, -1}} {
		if x, is := d.Pair(pair[0], pair[1]); x != 0 || is {
			t.Errorf("%x: %x %v", pair, x, is)
		}
	}
}

func TestP5_4Ends(t *testing.T) {
	// Whatever data may be: taking its code points apart ends, with few.
	parts := []string{"", "0041", "0042", "0043 0042", "<a> 0041 0043", "0044 0044", "<b> 0044 0042 0043", "0042 0301"}
	some := 0
	for n := range len(parts) * len(parts) * len(parts) * len(parts) {
		text := ""
		for i, x := 0, n; i < 4; i, x = i+1, x/len(parts) {
			text += plain(fmt.Sprintf("%04X", 0x41+i), "0", parts[x%len(parts)])
		}
		d, e := ucd.Of(text, "")
		if e != api.OK {
			continue
		}
		some++
		for r := rune(0x41); r < 0x45; r++ {
			l := []rune{r}
			for step := 0; ; step++ {
				var next []rune
				for _, x := range l {
					if row, _ := d.Decomposition(x); len(row) > 0 {
						next = append(next, row...)
					} else {
						next = append(next, x)
					}
				}
				if slices.Equal(next, l) {
					break
				}
				if l = next; len(l) > 32 || step > 10 {
					t.Fatalf("%q: %x", text, l)
				}
			}
		}
	}
	if some < 100 {
		t.Error(some)
	}
}
