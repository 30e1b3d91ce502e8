package ducet

import (
	"iter"
	"strings"

	"blazon/api"
)

const (
	blanks   = " \t"
	version  = "@version "
	implicit = "@implicitweights "

	fewestDigits = 4 // of a rune, and of a weight
	mostDigits   = 6 // of a rune
)

// says goes over what the lines of a text say that are not empty.
func says(text string) iter.Seq[string] {
	return func(yield func(string) bool) {
		for l := range strings.SplitSeq(text, "\n") {
			l, _, _ = strings.Cut(l, "#")
			if l = strings.Trim(l, blanks); l != "" && !yield(l) {
				return
			}
		}
	}
}

// take takes what a line says: may it be said?
func (t *tables) take(s string) bool {
	if strings.HasPrefix(s, version) {
		return true
	}
	if s, is := strings.CutPrefix(s, implicit); is {
		x, is := spanOf(s)
		t.spans = append(t.spans, x)
		return is
	}
	l, is := lineOf(s)
	return is && l.may() && t.put(l)
}

// reader reads a line's parts, each one behind the one ahead; what is none ends it.
type reader struct {
	blanks func()
	sign   func(s string) bool
	digits func(fewest, most int) (int, bool)
	ended  func() bool
	hex    func(ahead int) bool
}

// read is a reader of a line.
func read(s string) reader {
	at := 0
	hex := func(ahead int) bool {
		if at+ahead >= len(s) {
			return false
		}
		_, is := digit(s[at+ahead])
		return is
	}
	return reader{
		blanks: func() { at = len(s) - len(strings.TrimLeft(s[at:], blanks)) },
		sign: func(sign string) bool {
			if !strings.HasPrefix(s[at:], sign) {
				return false
			}
			at += len(sign)
			return true
		},
		digits: func(fewest, most int) (int, bool) {
			n, many := 0, 0
			for ; hex(0) && many < most; many++ {
				d, _ := digit(s[at])
				n = n<<4 | d
				at++
			}
			return n, many >= fewest
		},
		ended: func() bool { return at == len(s) },
		hex:   hex,
	}
}

// digit is what a digit says.
func digit(c byte) (int, bool) {
	switch {
	case c >= '0' && c <= '9':
		return int(c - '0'), true
	case c >= 'A' && c <= 'F':
		return int(c-'A') + 10, true
	case c >= 'a' && c <= 'f':
		return int(c-'a') + 10, true
	}
	return 0, false
}

// rune reads a rune.
func (r reader) rune() (rune, bool) {
	n, is := r.digits(fewestDigits, mostDigits)
	return rune(n), is && may(rune(n))
}

// element reads an element.
func (r reader) element() (x api.Element, is bool) {
	if !r.sign("[") {
		return x, false
	}
	switch {
	case r.sign("."):
	case r.sign("*"):
		x.Variable = true
	default:
		return x, false
	}
	for i, weight := range [...]*uint16{&x.P, &x.S, &x.T} {
		if i > 0 && !r.sign(".") {
			return x, false
		}
		n, is := r.digits(fewestDigits, fewestDigits)
		if !is {
			return x, false
		}
		*weight = uint16(n)
	}
	return x, r.sign("]")
}

// spanOf is what behind '@implicitweights ' stands.
func spanOf(s string) (span, bool) {
	r := read(s)
	from, isFrom := r.rune()
	dots := r.sign("..")
	to, isTo := r.rune()
	behind := r.sign("; ")
	n, isWeight := r.digits(fewestDigits, fewestDigits)
	is := isFrom && dots && isTo && behind && isWeight && r.ended() && from <= to
	return span{from: from, to: to, weight: uint16(n)}, is
}

// lineOf is what a line of runes says.
func lineOf(s string) (l line, is bool) {
	r := read(s)
	for len(l.runes) == 0 || r.hex(1) && r.sign(" ") {
		c, is := r.rune()
		if !is {
			return line{}, false
		}
		l.runes = append(l.runes, c)
	}
	r.blanks()
	if !r.sign(";") {
		return line{}, false
	}
	r.blanks()
	for !r.ended() {
		x, is := r.element()
		if !is {
			return line{}, false
		}
		l.elements = append(l.elements, x)
	}
	return l, true
}

// may: may there be such a line?
func (l line) may() bool {
	_, is := keyOf(l.runes)
	if !is || len(l.elements) == 0 || len(l.elements) > mostElements {
		return false
	}
	for _, x := range l.elements {
		if !mayElement(x) {
			return false
		}
	}
	return true
}

// mayElement: has it none ahead of what has a weight?
func mayElement(x api.Element) bool {
	if x.P != 0 {
		return x.S != 0 && x.T != 0
	}
	return !x.Variable && (x.S == 0 || x.T != 0)
}

// Text is a table's text.
func Text(l ...api.Weighed) (string, api.Errno) {
	t := &tables{lines: map[key]line{}}
	var b strings.Builder
	may := true
	for _, x := range l {
		one := line{runes: x.Runes, elements: x.Elements}
		if !one.may() {
			may = false
			continue
		}
		may = t.put(one) && may
		b.WriteString(one.text())
		if b.Len() > api.MaxTable {
			return "", api.ErrLong
		}
	}
	if !may {
		return "", api.ErrTable
	}
	return b.String(), api.OK
}

// text is a line's text.
func (l line) text() string {
	var b strings.Builder
	for i, r := range l.runes {
		if i > 0 {
			b.WriteByte(' ')
		}
		b.WriteString(hex(int(r)))
	}
	b.WriteString(" ; ")
	for _, x := range l.elements {
		sign := "."
		if x.Variable {
			sign = "*"
		}
		b.WriteString("[" + sign + hex(int(x.P)) + "." + hex(int(x.S)) + "." + hex(int(x.T)) + "]")
	}
	b.WriteByte('\n')
	return b.String()
}

// hex is a number with great digits, at least four.
func hex(n int) string {
	const digits = "0123456789ABCDEF"
	s := ""
	for ; n > 0 || len(s) < fewestDigits; n >>= 4 {
		s = digits[n&15:n&15+1] + s
	}
	return s
}
