package space_test

import (
	"slices"
	"strings"
	"testing"

	"blazon/api"
	"blazon/space"
	"blazon/ucd"
)

// data has marks 0301 (Mn), 0903 (Mc), 20DD (Me), and others that are none.
func data(t *testing.T) *ucd.Data {
	t.Helper()
	text := "0020;SPACE;Zs;0;;;;;;;;;;;\n0301;ACUTE;Mn;230;;;;;;;;;;;\n0302;NONE;Lm;230;;;;;;;;;;;\n0903;VISARGA;Mc;0;;;;;;;;;;;\n20DD;CIRCLE;Me;0;;;;;;;;;;;\n2100;NONE;Sm;0;;;;;;;;;;;\n"
	d, e := ucd.Of(text, "")
	if e != api.OK {
		t.Fatal(ucd.Check(text, ""))
	}
	return d
}

var parts = []api.Part{api.PartWhole, api.PartInitial, api.PartAny, api.PartFinal}

func TestP11_1Mark(t *testing.T) {
	d := data(t)
	for r, want := range map[rune]bool{0x301: true, 0x903: true, 0x20dd: true, 0x302: false, 0x2100: false, 0x20: false, 0x41: false, -1: false} {
		if space.Mark(d, r) != want || space.Mark(nil, r) {
			t.Errorf("%x: %v %v", r, space.Mark(d, r), space.Mark(nil, r))
		}
	}
}

func TestP11_1Is(t *testing.T) {
	d := data(t)
	for text, want := range map[string]string{
		"": "", " ": "x", "  ": "xx", "a b": ".x.", " a ": "x.x", "a \u0301b": "....", "a  \u0301": ".x..", " \u0903": "..", " \u20dd": "..", " \u0302": "x.", " \u2100": "x.", "\u00a0\t": "..",
	} {
		l := []rune(text)
		for at := -2; at < len(l)+2; at++ {
			is := at >= 0 && at < len(l) && want[at] == 'x'
			if space.Is(d, l, at) != is {
				t.Errorf("%q at %d: %v", text, at, !is)
			}
		}
	}
	if !space.Is(nil, []rune(" \u0301"), 0) || space.Is(d, nil, 0) || space.Is(d, []rune{' '}, 1<<62) || space.Is(d, []rune{' '}, -1<<63) {
		t.Error("nothing")
	}
}

func TestP11_1Words(t *testing.T) {
	d := data(t)
	for text, want := range map[string][]string{
		"": nil, " ": nil, "   ": nil, "a": {"a"}, " a ": {"a"}, "a b": {"a", "b"}, "  ab   c  ": {"ab", "c"}, "a \u0301b c": {"a \u0301b", "c"}, "  \u0301": {" \u0301"}, "a\tb": {"a\tb"},
	} {
		l := []rune(text)
		over := space.Words(d, l...)
		for i := range l {
			l[i] = 'z'
		}
		for range 2 {
			var got []string
			for w := range over {
				got = append(got, string(w))
				w[0] = 'z'
			}
			if !slices.Equal(got, want) {
				t.Errorf("%q: %q", text, got)
			}
		}
	}
	many := 0
	for range space.Words(d, 'a', ' ', 'b', ' ', 'c') {
		if many++; many == 2 {
			break
		}
	}
	if many != 2 {
		t.Error(many)
	}
}

func TestP11_2Lay(t *testing.T) {
	d := data(t)
	for _, x := range []struct{ text, whole, initial, any, final string }{
		{"", "  ", " ", " ", " "},
		{" ", "  ", " ", " ", " "},
		{"    ", "  ", " ", " ", " "},
		{"foo", " foo ", " foo", "foo", "foo "},
		{" foo", " foo ", " foo", " foo", " foo "},
		{"   foo", " foo ", " foo", " foo", " foo "},
		{"foo ", " foo ", " foo ", "foo ", "foo "},
		{"foo   ", " foo ", " foo ", "foo ", "foo "},
		{"  foo   ", " foo ", " foo ", " foo ", " foo "},
		{"foo bar  ", " foo  bar ", " foo  bar ", "foo  bar ", "foo  bar "},
		{"a  b c    d", " a  b  c  d ", " a  b  c  d", "a  b  c  d", "a  b  c  d "},
		{"a \u0301", " a \u0301 ", " a \u0301", "a \u0301", "a \u0301 "},
		{"a  \u0301", " a   \u0301 ", " a   \u0301", "a   \u0301", "a   \u0301 "},
		{" \u0301", "  \u0301 ", "  \u0301", " \u0301", " \u0301 "},
		{"\u00a0", " \u00a0 ", " \u00a0", "\u00a0", "\u00a0 "},
		{"\u0301 ", " \u0301 ", " \u0301 ", "\u0301 ", "\u0301 "},
	} {
		for i, want := range []string{x.whole, x.initial, x.any, x.final} {
			l := []rune(x.text)
			got := space.Lay(d, parts[i], l...)
			if string(got) != want || string(l) != x.text {
				t.Errorf("%q, part %d: %q, not %q", x.text, parts[i], string(got), want)
			}
		}
		for _, p := range []api.Part{0, -1, 5, 1 << 40} {
			l := []rune(x.text)
			got := space.Lay(d, p, l...)
			if string(got) != x.text {
				t.Errorf("%q, part %d: %q", x.text, p, string(got))
			}
			if len(got) > 0 {
				got[0] = 'z'
			}
			if string(l) != x.text {
				t.Error("an answer shares memory with what was handed in")
			}
		}
	}
	if got := space.Lay(nil, api.PartAny, []rune("a \u0301")...); string(got) != "a  \u0301" {
		t.Errorf("%q", string(got))
	}
}

func TestP11_3WhatFollows(t *testing.T) {
	d := data(t)
	bits := []string{"", " ", "  ", "a", "b", "\u0301", "c\u0301"}
	words := map[string]string{}
	for _, a := range bits {
		for _, b := range bits {
			for _, c := range bits {
				for _, e := range bits {
					text := []rune(a + b + c + e)
					if len(text) > 0 && space.Mark(d, text[0]) {
						continue
					}
					once := space.Lay(d, api.PartWhole, text...)
					if twice := space.Lay(d, api.PartWhole, once...); !slices.Equal(once, twice) {
						t.Errorf("%q: %q, then %q", string(text), string(once), string(twice))
					}
					var l []string
					for w := range space.Words(d, text...) {
						l = append(l, string(w))
					}
					key := strings.Join(l, "|")
					if other, is := words[key]; is && other != string(once) {
						t.Errorf("%q: the same words, but %q and %q", key, other, string(once))
					}
					words[key] = string(once)
				}
			}
		}
	}
	laid := map[string]string{}
	for key, text := range words {
		if other, is := laid[text]; is {
			t.Errorf("%q: of the words %q and %q", text, key, other)
		}
		laid[text] = key
	}
}
