package ucd

import (
	"errors"
	"maps"
	"slices"

	"blazon/api"
	"blazon/fields"
	"blazon/ranges"
)

const (
	dataTable      = "data"
	exclusionTable = "exclusions"
	mostApart      = 32 // code points that one comes to
)

// wrong is a table's fault, and what it is.
type wrong struct {
	what string
	err  error
}

// Error is it as a text.
func (w *wrong) Error() string { return w.what + ": " + w.err.Error() }

// Unwrap is where it is, and why.
func (w *wrong) Unwrap() error { return w.err }

// fault is an error at a line of a table.
func fault(table string, line int, why api.Errno, what string) error {
	return &wrong{what: what, err: &api.TableError{Table: table, Line: line, Why: why}}
}

// why is an error's number.
func why(err error) api.Errno {
	var at *api.TableError
	switch {
	case errors.Is(err, api.ErrLong):
		return api.ErrLong
	case errors.As(err, &at):
		return at.Why
	}
	return api.ErrTable
}

// reader is what was read of the texts up to a line.
type reader struct {
	last  rune // the code point of the line ahead; below 0: there is none
	open  bool // is the line ahead the first one of a range?
	first line // which one
	named []api.Range
	t     *tables
}

// read is what texts say, or what is wrong with them.
func read(text, exclusions string) (*tables, error) {
	if len(text) > api.MaxTable {
		return nil, fault(dataTable, 0, api.ErrLong, "too many bytes")
	}
	if len(exclusions) > api.MaxTable {
		return nil, fault(exclusionTable, 0, api.ErrLong, "too many bytes")
	}
	r := &reader{last: -1, t: &tables{apart: map[rune]decomposition{}, excluded: map[rune]struct{}{}, pairs: map[[2]rune]rune{}}}
	if err := r.data(text); err != nil {
		return nil, err
	}
	if err := r.exclusions(exclusions); err != nil {
		return nil, err
	}
	if err := r.whole(); err != nil {
		return nil, err
	}
	return r.t, nil
}

// data reads the data's text.
func (r *reader) data(text string) error {
	for number, f := range fields.Lines(text) {
		l, is := parse(number, f)
		if !is {
			return fault(dataTable, number, api.ErrTable, "no line of the data")
		}
		if what := r.take(l); what != "" {
			return fault(dataTable, number, api.ErrTable, what)
		}
	}
	if r.open {
		return fault(dataTable, r.first.number, api.ErrTable, "a range without its last line")
	}
	m, e := ranges.Of(r.named...)
	if e != api.OK {
		return fault(dataTable, 0, e, "code points that are named twice")
	}
	r.t.kinds = m
	return nil
}

// take takes a line: what is wrong with it, if something is.
func (r *reader) take(l line) string {
	_, isFirst := l.first()
	_, isLast := l.last()
	switch {
	case l.code <= r.last:
		return "code points that do not rise"
	case (l.class != 0 || len(l.row) > 0) && meetsHangul(l.code, l.code):
		return "a class or a decomposition of Hangul"
	case r.open && !r.closes(l):
		return "a range's last line that is none"
	case r.open:
		r.name(r.first.code, l)
		r.open = false
	case isLast:
		return "a range's last line without its first one"
	case isFirst:
		r.open, r.first = true, l
	default:
		r.name(l.code, l)
	}
	r.last = l.code
	return ""
}

// closes: is a line the last one of the range whose first one stands ahead of it?
func (r *reader) closes(l line) bool {
	name, _ := r.first.first()
	same, is := l.last()
	if !is || same != name || l.category != r.first.category || l.class != r.first.class {
		return false
	}
	if len(l.row) > 0 || len(r.first.row) > 0 {
		return false
	}
	return l.class == 0 || !meetsHangul(r.first.code, l.code)
}

// name notes the code points from one on up to a line's.
func (r *reader) name(from rune, l line) {
	r.named = append(r.named, api.Range{Lo: from, Hi: l.code, Value: kind(l.category, l.class)})
	if len(l.row) > 0 {
		r.t.apart[l.code] = l.decomposition
	}
}

// meetsHangul: is one from lo to hi of Hangul's letters and syllables?
func meetsHangul(lo, hi rune) bool {
	for _, x := range [...][2]rune{{0x1100, 0x1112}, {0x1161, 0x1175}, {0x11a7, 0x11c2}, {0xac00, 0xd7a3}} {
		if lo <= x[1] && hi >= x[0] {
			return true
		}
	}
	return false
}

// exclusions reads the exclusions' text.
func (r *reader) exclusions(text string) error {
	for number, f := range fields.Lines(text) {
		c, is := fields.Code(f[0])
		if !is {
			return fault(exclusionTable, number, api.ErrTable, "no code point")
		}
		if _, is := r.t.excluded[c]; is {
			return fault(exclusionTable, number, api.ErrTable, "a code point that stands twice")
		}
		r.t.excluded[c] = struct{}{}
	}
	return nil
}

// whole looks at what no line tells by itself.
func (r *reader) whole() error {
	if !r.ends() {
		return fault(dataTable, 0, api.ErrTable, "a code point that comes to itself, or to too many")
	}
	d := &Data{t: r.t}
	for _, c := range slices.Sorted(maps.Keys(r.t.apart)) {
		x := r.t.apart[c]
		if !x.canonical || len(x.row) != 2 || d.Class(c) != 0 || d.Class(x.row[0]) != 0 || d.Excluded(c) {
			continue
		}
		pair := [2]rune(x.row)
		if _, is := r.t.pairs[pair]; is {
			return fault(dataTable, 0, api.ErrTable, "two composites of one pair")
		}
		r.t.pairs[pair] = c
		r.t.composites = append(r.t.composites, c)
	}
	return nil
}

// ends: does taking apart end for each code point, with few enough?
func (r *reader) ends() bool {
	const under = -1 // it is being taken apart: who meets it comes to itself
	many := map[rune]int{}
	var count func(c rune) (int, bool)
	count = func(c rune) (int, bool) {
		x, is := r.t.apart[c]
		if !is {
			return 1, true
		}
		if n := many[c]; n != 0 {
			return n, n != under
		}
		many[c] = under
		sum := 0
		for _, part := range x.row {
			n, is := count(part)
			sum += n
			if !is || sum > mostApart {
				return 0, false
			}
		}
		many[c] = sum
		return sum, true
	}
	for _, c := range slices.Sorted(maps.Keys(r.t.apart)) {
		if _, is := count(c); !is {
			return false
		}
	}
	return true
}
