package match_test

import (
	"slices"
	"strings"
	"testing"

	"blazon/api"
	"blazon/match"
)

// tables fold A to Z, and know an acute, its composite and what is private.
func tables() api.Tables {
	folding := ""
	for c := 'A'; c <= 'Z'; c++ {
		folding += "00" + hex(c) + "; C; 00" + hex(c+32) + ";\n"
	}
	return api.Tables{
		Data:       "00E1;A ACUTE;Ll;0;;0061 0301;;;;;;;;;\n00E9;E ACUTE, EXCLUDED;Ll;0;;0065 0301;;;;;;;;;\n0301;ACUTE;Mn;230;;;;;;;;;;;\n0379;PRIVATE;Co;0;;;;;;;;;;;\n",
		Exclusions: "00E9\n",
		Folding:    folding,
	}
}

// hex is two digits.
func hex(c rune) string {
	const digits = "0123456789ABCDEF"
	return string(digits[c>>4]) + string(digits[c&15])
}

// names are the names of the tables.
func names(t *testing.T) *match.Names {
	t.Helper()
	n, e := match.New(tables())
	if n == nil || e != api.OK {
		t.Fatal(e)
	}
	return n
}

func TestP12_1New(t *testing.T) {
	n := names(t)
	if !n.Data().Named(0xe1) || !n.Data().Excluded(0xe9) || n.Fold().Simple('A') != 'a' {
		t.Error("the tables are others")
	}
	if n, e := match.New(api.Tables{}); n == nil || e != api.OK || n.Data() == nil || n.Fold() == nil {
		t.Error(e)
	}
	long := strings.Repeat("\n", api.MaxTable+1)
	for _, x := range []struct {
		t    api.Tables
		want api.Errno
	}{
		{api.Tables{Data: "x"}, api.ErrTable},
		{api.Tables{Exclusions: "x"}, api.ErrTable},
		{api.Tables{Folding: "x"}, api.ErrTable},
		{api.Tables{Data: long}, api.ErrLong},
		{api.Tables{Exclusions: long}, api.ErrLong},
		{api.Tables{Folding: long}, api.ErrLong},
		{api.Tables{Data: "x", Folding: long}, api.ErrTable},
		{api.Tables{Data: long, Folding: "x"}, api.ErrLong},
	} {
		if n, e := match.New(x.t); n != nil || e != x.want {
			t.Errorf("%.20q: %v", x.t, e)
		}
	}
	if _, e := match.New(api.Tables{Weights: "x"}); e != api.OK {
		t.Error(e)
	}
}

func TestP12_1Nil(t *testing.T) {
	for _, n := range []*match.Names{nil, {}} {
		if n.Data() != nil || n.Fold() != nil {
			t.Error("nil has data")
		}
		if l, e := match.Prepare(n, "\xff"); len(l) != 0 || e != api.ErrNil {
			t.Error(l, e)
		}
		if l, e := match.Part(n, 0, "a"); len(l) != 0 || e != api.ErrNil {
			t.Error(l, e)
		}
		if is, e := match.Same(n, "a", "a"); is || e != api.ErrNil {
			t.Error(is, e)
		}
		if sign, e := match.Compare(n, "a", "b"); sign != 0 || e != api.ErrNil {
			t.Error(sign, e)
		}
		if is, e := match.Fits(n, "a"); is || e != api.ErrNil {
			t.Error(is, e)
		}
	}
}

func TestP12_2PreparePart(t *testing.T) {
	n := names(t)
	for _, x := range []struct{ name, whole, initial, any, final string }{
		{"", "  ", " ", " ", " "},
		{"Foo  Bar", " foo  bar ", " foo  bar", "foo  bar", "foo  bar "},
		{" foo bar ", " foo  bar ", " foo  bar ", " foo  bar ", " foo  bar "},
		{"A\u0301\tB\u00ad", " \u00e1  b ", " \u00e1  b", "\u00e1  b", "\u00e1  b "},
		{"e\u0301", " e\u0301 ", " e\u0301", "e\u0301", "e\u0301 "},
		{"\u00ad", "  ", " ", " ", " "},
	} {
		if l, e := match.Prepare(n, x.name); string(l) != x.whole || e != api.OK {
			t.Errorf("%q: %q %v", x.name, string(l), e)
		}
		for i, want := range []string{x.whole, x.initial, x.any, x.final} {
			if l, e := match.Part(n, api.Part(i+1), x.name); string(l) != want || e != api.OK {
				t.Errorf("%q, part %d: %q %v", x.name, i+1, string(l), e)
			}
		}
	}
	for _, p := range []api.Part{0, -1, 5} {
		if l, e := match.Part(n, p, "\xff"); len(l) != 0 || e != api.ErrArg {
			t.Errorf("part %d: %q %v", p, string(l), e)
		}
	}
	for name, want := range map[string]api.Errno{"\xff": api.ErrUTF, "a\ufffd": api.ErrProhibited, "\u0379": api.ErrProhibited} {
		if l, e := match.Prepare(n, name); len(l) != 0 || e != want {
			t.Errorf("%q: %q %v", name, string(l), e)
		}
		if l, e := match.Part(n, api.PartAny, name); len(l) != 0 || e != want {
			t.Errorf("%q: %q %v", name, string(l), e)
		}
	}
}

func TestP12_3SameCompare(t *testing.T) {
	n := names(t)
	for _, x := range []struct {
		a, b string
		want int
	}{
		{"Foo  Bar", " foo bar ", 0},
		{"", "", 0},
		{"", "  ", 0},
		{"a", "A", 0},
		{"\u00e1", "A\u0301", 0},
		{"foo bar", "foobar", -1},
		{"a", "b", -1},
		{"b", "A", 1},
		{"a", "ab", -1},
		{"ab c", "ab", 1},
		{"", "a", -1},
		{"\uffee", "\U00010000", -1},
	} {
		for _, y := range []struct {
			a, b string
			want int
		}{{x.a, x.b, x.want}, {x.b, x.a, -x.want}} {
			if sign, e := match.Compare(n, y.a, y.b); sign != y.want || e != api.OK {
				t.Errorf("%q %q: %d %v", y.a, y.b, sign, e)
			}
			if is, e := match.Same(n, y.a, y.b); is != (y.want == 0) || e != api.OK {
				t.Errorf("%q %q: %v %v", y.a, y.b, is, e)
			}
		}
	}
	for _, x := range []struct {
		a, b string
		want api.Errno
	}{
		{"\xff", "a", api.ErrUTF}, {"a", "\xff", api.ErrUTF}, {"\ufffd", "a", api.ErrProhibited}, {"a", "\ufffd", api.ErrProhibited}, {"\ufffd", "\xff", api.ErrProhibited}, {"\xff", "\ufffd", api.ErrUTF}, {"\ufffd", "\ufffd", api.ErrProhibited},
	} {
		if sign, e := match.Compare(n, x.a, x.b); sign != 0 || e != x.want {
			t.Errorf("%q %q: %d %v", x.a, x.b, sign, e)
		}
		if is, e := match.Same(n, x.a, x.b); is || e != x.want {
			t.Errorf("%q %q: %v %v", x.a, x.b, is, e)
		}
	}
}

func TestP12_3Fits(t *testing.T) {
	n := names(t)
	for _, x := range []struct {
		name  string
		parts []string
		want  bool
	}{
		{"Foo Bar", nil, true},
		{"Foo Bar", []string{""}, true},
		{"Foo Bar", []string{"", "", ""}, true},
		{"Foo Bar", []string{"f"}, true},
		{"Foo Bar", []string{"FOO b"}, true},
		{"Foo Bar", []string{"foo bar"}, true},
		{"Foo Bar", []string{"foo bar "}, true},
		{"Foo Bar", []string{"foo bars"}, false},
		{"Foo Bar", []string{"oo"}, false},
		{"Foo Bar", []string{"", "bar"}, true},
		{"Foo Bar", []string{"", "ba"}, false},
		{"Foo Bar", []string{"foo", "bar"}, true},
		{"Foo Bar", []string{"foo b", "ar"}, true},
		{"Foo Bar", []string{"foo ba", "bar"}, false},
		{"Foo Bar", []string{"", "oo", ""}, true},
		{"Foo Bar", []string{"", "O B", ""}, true},
		{"Foo Bar", []string{"", "ob", ""}, false},
		{"Foo Bar", []string{"", "o", "o", "a", ""}, true},
		{"Foo Bar", []string{"", "o", "o", "o", ""}, false},
		{"Foo Bar", []string{"", "bar", "foo", ""}, false},
		{"Foo Bar", []string{"f", "o", "", "b", "ar"}, true},
		{"Foo Bar", []string{"f", "oo", "ar", "r"}, false},
		{"aXbXc", []string{"a", "X", "c"}, true},
		{"abab", []string{"ab", "ab"}, true},
		{"aba", []string{"ab", "ba"}, false},
		{"Foo Bar", []string{"", " ", ""}, true},
		{"foobar", []string{"", " ", ""}, true}, // at its ends
		{"", []string{""}, true},
		{"", []string{"a"}, false},
		{"", []string{" "}, true},
		{"\u00e1b", []string{"A\u0301"}, true},
		{"\u00e1b", []string{"a"}, false},
		{"\u00e1b", []string{"", "B"}, true},
	} {
		if is, e := match.Fits(n, x.name, x.parts...); is != x.want || e != api.OK {
			t.Errorf("%q, %q: %v %v", x.name, x.parts, is, e)
		}
	}
	for _, x := range []struct {
		name  string
		parts []string
		want  api.Errno
	}{
		{"\xff", nil, api.ErrUTF}, {"\ufffd", []string{"\xff"}, api.ErrProhibited}, {"a", []string{"\xff"}, api.ErrUTF}, {"a", []string{"", "\ufffd", "\xff"}, api.ErrProhibited}, {"a", []string{"b", "c", "\ue000"}, api.ErrProhibited}, {"a", []string{"b", "\xff", "\ue000"}, api.ErrUTF},
	} {
		if is, e := match.Fits(n, x.name, x.parts...); is || e != x.want {
			t.Errorf("%q, %q: %v %v", x.name, x.parts, is, e)
		}
	}
}

func TestP12_3Within(t *testing.T) {
	l := func(s string) []rune { return []rune(s) }
	for _, x := range []struct {
		text, initial string
		any           []string
		final         string
		want          bool
	}{
		{"", "", nil, "", true},
		{"abc", "", nil, "", true},
		{"abc", "", []string{"", ""}, "", true},
		{"abc", "ab", nil, "c", true},
		{"abc", "ab", nil, "bc", false},
		{"abc", "b", nil, "", false},
		{"abc", "abcd", nil, "", false},
		{"abc", "", nil, "abcd", false},
		{"abc", "", nil, "abc", true},
		{"abc", "", nil, "ab", false},
		{"aabaab", "", []string{"ab", "ab"}, "", true},
		{"aabaab", "", []string{"aab", "aab"}, "b", false},
		{"aabaab", "", []string{"b", "b"}, "", true},
		{"aabaab", "", []string{"b", "b", "b"}, "", false},
		{"aaabaaaab", "", []string{"aaaab"}, "", true},
		{"ababac", "", []string{"abac"}, "", true},
		{"ababababc", "a", []string{"bababc"}, "", true},
		{"aaaa", "", []string{"aa", "aa", "a"}, "", false},
		{"abcabd", "", []string{"abd"}, "", true},
		{"", "", []string{"a"}, "", false},
		{"abxab", "ab", []string{"x"}, "ab", true},
		{"abab", "ab", []string{"ab"}, "ab", false},
	} {
		var any [][]rune
		for _, s := range x.any {
			any = append(any, l(s))
		}
		if is := match.Within(l(x.text), l(x.initial), any, l(x.final)); is != x.want {
			t.Errorf("%q: %q %q %q: %v", x.text, x.initial, x.any, x.final, is)
		}
	}
	long := l(strings.Repeat("a", 200000))
	if match.Within(long, nil, [][]rune{append(slices.Clone(long[:100000]), 'b')}, nil) {
		t.Error("what does not stand there was found")
	}
}

func TestP12_3WithinEachPlace(t *testing.T) {
	// Of all short texts of two letters: the first place of a part is where a plain search finds it.
	var texts []string
	for n := range 1 << 9 {
		s := ""
		for x := n; x > 1; x >>= 1 {
			s += string(rune('a' + x&1))
		}
		texts = append(texts, s)
	}
	for _, text := range texts {
		for _, part := range texts {
			if len(part) > 4 {
				continue
			}
			at := strings.Index(text, part)
			is := at >= 0 && strings.HasSuffix(text[at+len(part):], "b")
			if match.Within([]rune(text), nil, [][]rune{[]rune(part)}, []rune("b")) != is {
				t.Fatalf("%q %q", text, part)
			}
		}
	}
}

func TestP12_4WhatFollows(t *testing.T) {
	n := names(t)
	all := []string{"", " ", "a", "A", "a ", "a b", "A  B", "ab", "\u00e1", "a\u0301", "A\u0301 b", "b", "a\u00adb", "\u3000a\tb"}
	parts := [][]string{{"a"}, {"", "b"}, {"a", "b"}, {"", " ", ""}, {"", "a", "b", ""}, {" "}, {"\u00e1"}}
	for _, a := range all {
		for _, b := range all {
			same, _ := match.Same(n, a, b)
			back, _ := match.Same(n, b, a)
			ab, _ := match.Compare(n, a, b)
			ba, _ := match.Compare(n, b, a)
			if same != back || ab != -ba || same != (ab == 0) || a == b && !same {
				t.Errorf("%q %q: %v %v %d %d", a, b, same, back, ab, ba)
			}
			for _, p := range parts {
				x, _ := match.Fits(n, a, p...)
				y, _ := match.Fits(n, b, p...)
				if same && x != y {
					t.Errorf("%q %q are the same, but %q", a, b, p)
				}
			}
			for _, c := range all {
				bc, _ := match.Compare(n, b, c)
				ac, _ := match.Compare(n, a, c)
				if ab <= 0 && bc <= 0 && ac > 0 {
					t.Errorf("%q %q %q", a, b, c)
				}
				fits, _ := match.Fits(n, a, "", b, "")
				more, _ := match.Fits(n, a, "", b, c, "")
				if more && !fits {
					t.Errorf("%q fits %q and %q, but not %q", a, b, c, b)
				}
			}
		}
	}
}
