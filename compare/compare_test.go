package compare_test

import (
	"testing"

	"blazon/api"
	"blazon/compare"
	"blazon/ducet"
	"blazon/sortkey"
	"blazon/ucd"
)

const lines = "00E9;E ACUTE;Ll;0;;0065 0301;;;;;;;;;\n" +
	"00F4;O CIRCUMFLEX;Ll;0;;006F 0302;;;;;;;;;\n" +
	"0301;ACUTE;Mn;230;;;;;;;;;;;\n" +
	"0302;CIRCUMFLEX;Mn;230;;;;;;;;;;;\n"

const weights = "0020 ; [*0209.0020.0002]\n" +
	"0063 ; [.1C7A.0020.0002]\n" +
	"0043 ; [.1C7A.0020.0008]\n" +
	"0065 ; [.1CAA.0020.0002]\n" +
	"006F ; [.1DDD.0020.0002]\n" +
	"0074 ; [.1E95.0020.0002]\n" +
	"0300 ; [.0000.0000.0000]\n" +
	"0301 ; [.0000.0024.0002]\n" +
	"0302 ; [.0000.0027.0002]\n"

// collator is a collator of the lines.
func collator(t *testing.T, shifted bool, levels int) *sortkey.Collator {
	t.Helper()
	d, e := ucd.Of(lines, "")
	x, e2 := ducet.New(weights)
	c, e3 := sortkey.New(d, x, api.Options{Shifted: shifted, Levels: levels})
	if e != api.OK || e2 != api.OK || e3 != api.OK {
		t.Fatal(e, e2, e3)
	}
	return c
}

func TestP17_1Where(t *testing.T) {
	for _, q := range []struct {
		a, b            string
		shifted         bool
		levels          int
		level, at, sign int
	}{
		{"cote", "cot\u00e9", false, 3, 2, 4, -1},
		{"cot\u00e9", "c\u00f4te", false, 3, 2, 2, -1},
		{"cote", "cote", false, 3, 0, 0, 0},
		{"cote", "cot", false, 3, 1, 3, 1},
		{"", "c", false, 3, 1, 0, -1},
		{"", "", false, 3, 0, 0, 0},
		{"cc", "ce", false, 3, 1, 1, -1},
		{"Cote", "cote", false, 3, 3, 0, 1},
		{"Cote", "cote", false, 2, 0, 0, 0},
		{"cot\u00e9", "cote", false, 1, 0, 0, 0},
		{"c\u0300ot", "cot", false, 4, 0, 0, 0},
		{"c\u0301", "Ce", false, 3, 1, 1, -1},
		{"Ce", "c\u00e9", false, 3, 2, 2, -1},
		{" c", "c", false, 3, 1, 0, -1},
		{" c", "c", true, 3, 0, 0, 0},
		{" c", "c", true, 4, 4, 0, -1},
		{"c ", "c", true, 4, 4, 1, 1},
		{"cot\u00e9", "cote\u0301", false, 4, 0, 0, 0},
	} {
		c := collator(t, q.shifted, q.levels)
		a, b := []rune(q.a), []rune(q.b)
		if level, at, sign := compare.Where(c, a, b); level != q.level || at != q.at || sign != q.sign {
			t.Errorf("%q %q: %d %d %d", q.a, q.b, level, at, sign)
		}
		if level, at, sign := compare.Where(c, b, a); level != q.level || at != q.at || sign != -q.sign {
			t.Errorf("%q %q: %d %d %d", q.b, q.a, level, at, sign)
		}
		if x, y := compare.Texts(c, a, b), compare.Texts(c, b, a); x != q.sign || y != -q.sign {
			t.Errorf("%q %q: %d %d", q.a, q.b, x, y)
		}
		if string(a) != q.a || string(b) != q.b {
			t.Error("what was handed in was changed")
		}
	}
}

func TestP17_2BeginsSame(t *testing.T) {
	for _, q := range []struct {
		a, b         string
		begins, same string // at the levels 1, 2, 3
	}{
		{"", "", "yyy", "yyy"},
		{"", "cote", "yyy", "nnn"},
		{"cot", "cote", "yyy", "nnn"},
		{"cote", "cot", "nnn", "nnn"},
		{"cote", "cote", "yyy", "yyy"},
		{"cote", "cot\u00e9", "yyy", "ynn"},
		{"c\u00f4te", "cote", "ynn", "ynn"},
		{"cote", "c\u00f4te", "ynn", "ynn"},
		{"Cot", "cote", "yyn", "nnn"},
		{"Cote", "cote", "yyn", "yyn"},
		{"c\u0300ot", "cot", "yyy", "yyy"},
		{"ot", "cot", "nnn", "nnn"},
		{"cc", "ce", "nnn", "nnn"},
		{"ce", "cc", "nnn", "nnn"},
		{"c\u00e9", "cet", "ynn", "nnn"},
		{"cot\u00e9", "cote\u0301", "yyy", "yyy"},
	} {
		for levels := 1; levels <= 4; levels++ {
			c := collator(t, false, levels)
			for level := 1; level <= min(levels, 3); level++ {
				a, b := []rune(q.a), []rune(q.b)
				if is := compare.Begins(c, a, b, level); is != (q.begins[level-1] == 'y') {
					t.Errorf("%q begins %q at %d: %v", q.a, q.b, level, is)
				}
				if is := compare.Same(c, a, b, level); is != (q.same[level-1] == 'y') {
					t.Errorf("%q, %q at %d: %v", q.a, q.b, level, is)
				}
			}
			for _, level := range []int{-1 << 63, -1, 0, levels + 1, 5, 1 << 62} {
				if compare.Begins(c, nil, nil, level) {
					t.Errorf("the level %d of %d", level, levels)
				}
			}
		}
	}
	c := collator(t, true, 4)
	if !compare.Begins(c, []rune(" c"), []rune("c"), 3) || compare.Begins(c, []rune(" c"), []rune("c"), 4) || !compare.Same(c, []rune(" c"), []rune("c"), 3) || compare.Same(c, []rune(" c"), []rune("c"), 4) {
		t.Error("the fourth level")
	}
}

func TestP17Nil(t *testing.T) {
	a, b := []rune("a"), []rune("b")
	for _, c := range []*sortkey.Collator{nil, {}} {
		if level, at, sign := compare.Where(c, a, b); level != 0 || at != 0 || sign != 0 {
			t.Error(level, at, sign)
		}
		if compare.Texts(c, a, b) != 0 || compare.Begins(c, a, a, 1) || compare.Same(c, a, a, 1) || compare.Begins(c, a, a, 0) || compare.Same(c, a, a, 0) {
			t.Error("nothing compares")
		}
	}
}

func TestP17_3WhatFollows(t *testing.T) {
	bits := []string{"", "c", "C", "o", "\u00f4", "e", "\u00e9", " ", "\u0300", "\u0301", "x"}
	var l [][]rune
	for _, a := range bits {
		for _, b := range bits {
			l = append(l, []rune(a+b))
		}
	}
	for _, c := range []*sortkey.Collator{collator(t, false, 3), collator(t, true, 4), collator(t, false, 1)} {
		for _, a := range l {
			for _, b := range l {
				want := c.Compare(a, b)
				level, _, sign := compare.Where(c, a, b)
				if compare.Texts(c, a, b) != want || sign != want || (level == 0) != (want == 0) {
					t.Fatalf("%q %q: %d, not %d", string(a), string(b), sign, want)
				}
				for n := 1; n <= c.Options().Levels; n++ {
					if same := compare.Same(c, a, b, n); same != (level == 0 || level > n) || same && !compare.Begins(c, a, b, n) {
						t.Fatalf("%q %q at %d", string(a), string(b), n)
					}
				}
			}
		}
	}
}
