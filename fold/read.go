package fold

import (
	"errors"
	"maps"
	"slices"

	"blazon/api"
	"blazon/fields"
)

const (
	table      = "folding"
	fewFields  = 3
	fewestFull = 2 // code points of a full folding
	mostFull   = 3
)

// tables are what the lines of each status say.
type tables struct {
	common, full, simple, turkic map[rune][]rune
	rising                       []rune // what is folded to something else
}

// wrong is a table's fault, and what it is.
type wrong struct {
	what string
	err  error
}

// Error is it as a text.
func (w *wrong) Error() string { return w.what + ": " + w.err.Error() }

// Unwrap is where it is, and why.
func (w *wrong) Unwrap() error { return w.err }

// fault is an error at a line.
func fault(line int, why api.Errno, what string) error {
	return &wrong{what: what, err: &api.TableError{Table: table, Line: line, Why: why}}
}

// why is an error's number.
func why(err error) api.Errno {
	var at *api.TableError
	if errors.As(err, &at) {
		return at.Why
	}
	return api.ErrTable
}

// read is what a text says, or what is wrong with it.
func read(text string) (*tables, error) {
	if len(text) > api.MaxTable {
		return nil, fault(0, api.ErrLong, "too many bytes")
	}
	t := &tables{common: map[rune][]rune{}, full: map[rune][]rune{}, simple: map[rune][]rune{}, turkic: map[rune][]rune{}}
	statuses := t.statuses()
	for number, f := range fields.Lines(text) {
		if len(f) < fewFields {
			return nil, fault(number, api.ErrTable, "too few fields")
		}
		code, isCode := fields.Code(f[0])
		row, isRow := fields.Row(f[2])
		take := statuses[f[1]]
		if !isCode || !isRow || take == nil || surrogates(code) || surrogates(row...) {
			return nil, fault(number, api.ErrTable, "no line of the foldings")
		}
		if !take(code, row) {
			return nil, fault(number, api.ErrTable, "a folding that may not be there")
		}
	}
	t.rise()
	return t, nil
}

// surrogates: is one of them a surrogate?
func surrogates(l ...rune) bool {
	return slices.ContainsFunc(l, func(r rune) bool { return r >= 0xd800 && r <= 0xdfff })
}

// statuses is what takes a line of each status: may the line be there?
func (t *tables) statuses() map[string]func(code rune, row []rune) bool {
	put := func(into map[rune][]rune, code rune, row []rune, fewest, most int, beside ...map[rune][]rune) bool {
		for _, other := range append(beside, into) {
			if _, is := other[code]; is {
				return false
			}
		}
		into[code] = row
		return len(row) >= fewest && len(row) <= most
	}
	return map[string]func(code rune, row []rune) bool{
		"C": func(code rune, row []rune) bool { return put(t.common, code, row, 1, 1, t.full, t.simple) },
		"F": func(code rune, row []rune) bool { return put(t.full, code, row, fewestFull, mostFull, t.common) },
		"S": func(code rune, row []rune) bool { return put(t.simple, code, row, 1, 1, t.common) },
		"T": func(code rune, row []rune) bool { return put(t.turkic, code, row, 1, 1) },
	}
}

// rise notes what is folded in full to something else, rising.
func (t *tables) rise() {
	t.rising = slices.Collect(maps.Keys(t.full))
	for code, row := range t.common {
		if row[0] != code {
			t.rising = append(t.rising, code)
		}
	}
	slices.Sort(t.rising)
}
