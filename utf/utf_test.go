package utf_test

import (
	"slices"
	"strings"
	"testing"
	"unicode/utf8"

	"blazon/api"
	"blazon/utf"
)

// edges are runes on both sides of each bound, with their bytes.
var edges = []struct {
	r     rune
	bytes string
}{
	{0, "\x00"},
	{'a', "a"},
	{0x7f, "\x7f"},
	{0x80, "\xc2\x80"},
	{0x7ff, "\xdf\xbf"},
	{0x800, "\xe0\xa0\x80"},
	{0x20ac, "\xe2\x82\xac"},
	{0xd7ff, "\xed\x9f\xbf"},
	{0xe000, "\xee\x80\x80"},
	{0xfffd, "\xef\xbf\xbd"},
	{0xffff, "\xef\xbf\xbf"},
	{0x10000, "\xf0\x90\x80\x80"},
	{0x10ffff, "\xf4\x8f\xbf\xbf"},
}

// none are numbers that are no runes.
var none = []rune{-1, -1 << 31, 0xd800, 0xdabc, 0xdfff, 0x110000, 1<<31 - 1}

// wrong are bytes at whose beginning no rune stands.
var wrong = []string{
	"\x80", "\xbf", "\x80\x80", "\xc0\x80", "\xc1\xbf", "\xc2", "\xc2a", "\xc2\xc2", "\xdf\x7f", "\xdf\xc0",
	"\xe0\x9f\xbf", "\xe0\x80\x80", "\xe2\x82", "\xe2\x82a", "\xe2a\x80", "\xed\xa0\x80", "\xed\xbf\xbf",
	"\xf0\x8f\xbf\xbf", "\xf0\x80\x80\x80", "\xf0\x90\x80", "\xf0\x90\x80a", "\xf0\x90a\x80", "\xf4\x90\x80\x80",
	"\xf5\x80\x80\x80", "\xf7\xbf\xbf\xbf", "\xf8\x88\x80\x80\x80", "\xfc\x84\x80\x80\x80\x80", "\xfe", "\xff",
}

func TestP1_1Next(t *testing.T) {
	for _, x := range edges {
		for _, behind := range []string{"", "z", "\xff", "\x80"} {
			if r, n, e := utf.Next(x.bytes + behind); r != x.r || n != len(x.bytes) || e != api.OK {
				t.Errorf("Next(%x): %x %d %v", x.bytes+behind, r, n, e)
			}
		}
	}
	for _, s := range append([]string{""}, wrong...) {
		if r, n, e := utf.Next(s); r != 0 || n != 0 || e != api.ErrUTF {
			t.Errorf("Next(%x): %x %d %v", s, r, n, e)
		}
	}
}

func TestP1_1Decode(t *testing.T) {
	if l, e := utf.Decode(""); len(l) != 0 || e != api.OK {
		t.Error(l, e)
	}
	text, want := "", []rune(nil)
	for _, x := range edges {
		text, want = text+x.bytes, append(want, x.r)
	}
	if l, e := utf.Decode(text); !slices.Equal(l, want) || e != api.OK {
		t.Errorf("%x %v", l, e)
	}
	for _, s := range wrong {
		for _, ahead := range []string{"", "a", text} {
			if l, e := utf.Decode(ahead + s); len(l) != 0 || e != api.ErrUTF {
				t.Errorf("Decode(%x): %x %v", ahead+s, l, e)
			}
		}
	}
}

func TestP1_1Encode(t *testing.T) {
	if s, e := utf.Encode(); s != "" || e != api.OK {
		t.Errorf("%x %v", s, e)
	}
	var all []rune
	text := ""
	for _, x := range edges {
		if s, e := utf.Encode(x.r); s != x.bytes || e != api.OK {
			t.Errorf("Encode(%x): %x %v", x.r, s, e)
		}
		all, text = append(all, x.r), text+x.bytes
	}
	if s, e := utf.Encode(all...); s != text || e != api.OK {
		t.Errorf("%x %v", s, e)
	}
	for _, r := range none {
		for _, l := range [][]rune{{r}, {'a', r}, {r, 'a'}} {
			if s, e := utf.Encode(l...); s != "" || e != api.ErrArg {
				t.Errorf("Encode(%x): %x %v", l, s, e)
			}
		}
	}
}

func TestP1_2ValidWhere(t *testing.T) {
	if !utf.Valid("") || utf.Where("") != 0 {
		t.Error("nothing is well made")
	}
	text := "a\u00e9\u20ac\U0001f600"
	for n := 0; n <= len(text); n++ {
		at := n
		for at > 0 && at < len(text) && !utf8.RuneStart(text[at]) {
			at--
		}
		if w, v := utf.Where(text[:n]), utf.Valid(text[:n]); w != at || v != (at == n) {
			t.Errorf("the first %d bytes: %d %v", n, w, v)
		}
	}
	for _, s := range wrong {
		if utf.Valid(text+s) || utf.Where(text+s+"b") != len(text) {
			t.Errorf("%x: %v %d", s, utf.Valid(text+s), utf.Where(text+s+"b"))
		}
	}
}

func TestP1_2MaySize(t *testing.T) {
	for _, x := range edges {
		if !utf.May(x.r) || utf.Size(x.r) != len(x.bytes) {
			t.Errorf("%x: %v %d", x.r, utf.May(x.r), utf.Size(x.r))
		}
	}
	for _, r := range none {
		if utf.May(r) || utf.Size(r) != 0 {
			t.Errorf("%x: %v %d", r, utf.May(r), utf.Size(r))
		}
	}
}

func TestP1_2Runes(t *testing.T) {
	over := utf.Runes("a\u00e9\u20ac\U0001f600\xffb")
	for range 2 {
		var places []int
		var l []rune
		for at, r := range over {
			places, l = append(places, at), append(l, r)
		}
		if !slices.Equal(places, []int{0, 1, 3, 6}) || !slices.Equal(l, []rune{'a', 0xe9, 0x20ac, 0x1f600}) {
			t.Error(places, l)
		}
	}
	many := 0
	for range over {
		many++
		if many == 2 {
			break
		}
	}
	if many != 2 {
		t.Error(many)
	}
	for at, r := range utf.Runes("\x80a") {
		t.Error(at, r)
	}
	for at, r := range utf.Runes("") {
		t.Error(at, r)
	}
}

func TestP1_3EachRune(t *testing.T) {
	last := ""
	for r := rune(-2); r <= 0x110002; r++ {
		s, e := utf.Encode(r)
		if e != api.OK {
			if utf8.ValidRune(r) {
				t.Fatalf("%x: %v", r, e)
			}
			continue
		}
		if s != string(r) || s <= last && last != "" {
			t.Fatalf("%x: %x behind %x", r, s, last)
		}
		if l, e := utf.Decode(s); len(l) != 1 || l[0] != r || e != api.OK {
			t.Fatalf("%x: %x %v", r, l, e)
		}
		last = s
	}
}

func TestP1_3Texts(t *testing.T) {
	bits := []string{"", "a", "\x80", "\xbf", "\xc2", "\xe2", "\x82", "\xac", "\xed", "\xa0", "\xf0", "\x90", "\xf4", "\xff", "\x7f"}
	for _, a := range bits {
		for _, b := range bits {
			for _, c := range bits {
				for _, d := range bits {
					s := a + b + c + d
					l, e := utf.Decode(s)
					if (e == api.OK) != utf8.ValidString(s) || utf.Valid(s) != (e == api.OK) {
						t.Fatalf("%x: %v", s, e)
					}
					if e != api.OK {
						continue
					}
					if x, e := utf.Encode(l...); x != s || e != api.OK {
						t.Fatalf("%x: %x %v", s, x, e)
					}
				}
			}
		}
	}
}

func TestP1_3Order(t *testing.T) {
	var texts [][]rune
	for _, x := range edges {
		texts = append(texts, []rune{x.r}, []rune{x.r, 'a'}, []rune{'a', x.r})
	}
	for _, a := range texts {
		for _, b := range texts {
			x, _ := utf.Encode(a...)
			y, _ := utf.Encode(b...)
			if strings.Compare(x, y) != slices.Compare(a, b) {
				t.Errorf("%x, %x", a, b)
			}
		}
	}
}

func TestHandedInStays(t *testing.T) {
	l := []rune{'a', 0x20ac}
	utf.Encode(l...)
	if !slices.Equal(l, []rune{'a', 0x20ac}) {
		t.Error(l)
	}
	a, _ := utf.Decode("ab")
	b, _ := utf.Decode("ab")
	a[0] = 'z'
	if b[0] != 'a' {
		t.Error("two answers share memory")
	}
}
