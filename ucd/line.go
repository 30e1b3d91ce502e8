package ucd

import (
	"strings"

	"blazon/fields"
)

const (
	manyFields     = 15
	mostClass      = 254
	mostCanonical  = 2  // code points of a canonical decomposition
	mostCompatible = 18 // of a compatible one
	blanks         = "\t\r "
)

// line is what a line of the data says.
type line struct {
	number   int
	code     rune
	name     string
	category string
	class    int
	decomposition
}

// parse is what a line's fields say, if they may be so by themselves.
func parse(number int, f []string) (line, bool) {
	if len(f) != manyFields {
		return line{}, false
	}
	code, isCode := fields.Code(f[0])
	class, isClass := classOf(f[3])
	x, isApart := decompositionOf(f[5])
	if !isCode || !isCategory(f[2]) || !isClass || !isApart {
		return line{}, false
	}
	return line{number: number, code: code, name: f[1], category: f[2], class: class, decomposition: x}, true
}

// isCategory: is it a great letter, and a small one?
func isCategory(s string) bool {
	return len(s) == 2 && s[0] >= 'A' && s[0] <= 'Z' && s[1] >= 'a' && s[1] <= 'z'
}

// classOf is the class that a field says.
func classOf(s string) (int, bool) {
	if s == "" || len(s) > 3 || len(s) > 1 && s[0] == '0' {
		return 0, false
	}
	n := 0
	for _, c := range s {
		if c < '0' || c > '9' {
			return 0, false
		}
		n = n*10 + int(c-'0')
	}
	return n, n <= mostClass
}

// decompositionOf is the decomposition that a field says.
func decompositionOf(s string) (x decomposition, is bool) {
	x.canonical = true
	most, row := mostCanonical, s
	switch {
	case s == "":
		return decomposition{}, true
	case s[0] == '<':
		tag, behind, closed := strings.Cut(s[1:], ">")
		if !closed || !areLetters(tag) {
			return decomposition{}, false
		}
		most, row = mostCompatible, strings.TrimLeft(behind, blanks)
		x.canonical = false
		fallthrough
	default:
		x.row, is = fields.Row(row)
	}
	if !is || len(x.row) > most || hasSurrogate(x.row) {
		return decomposition{}, false
	}
	return x, true
}

// areLetters: are they one or more letters?
func areLetters(s string) bool {
	for _, c := range s {
		if (c < 'A' || c > 'Z') && (c < 'a' || c > 'z') {
			return false
		}
	}
	return s != ""
}

// hasSurrogate: is one of them a surrogate?
func hasSurrogate(l []rune) bool {
	for _, r := range l {
		if r >= 0xd800 && r <= 0xdfff {
			return true
		}
	}
	return false
}

// end is what stands between '<' and an end of a range's name.
func (l line) end(suffix string) (string, bool) {
	inner, opens := strings.CutPrefix(l.name, "<")
	inner, ends := strings.CutSuffix(inner, suffix)
	return inner, opens && ends
}

// first is the name of the range whose first line it is.
func (l line) first() (string, bool) { return l.end(", First>") }

// last is the name of the range whose last line it is.
func (l line) last() (string, bool) { return l.end(", Last>") }
