package weigh_test

import (
	"slices"
	"testing"

	"blazon/api"
	"blazon/weigh"
)

var (
	plain   = api.Options{Levels: 3}
	shifted = api.Options{Shifted: true, Levels: 4}
)

// el is an element that is not variable.
func el(p, s, t uint16) api.Element { return api.Element{P: p, S: s, T: t} }

// variable is an element that is.
func variable(p, s, t uint16) api.Element { return api.Element{P: p, S: s, T: t, Variable: true} }

// weighs fails the test unless elements have these weights.
func weighs(t *testing.T, o api.Options, l []api.Element, want ...api.Weights) {
	t.Helper()
	kept := slices.Clone(l)
	if got := weigh.Of(o, l...); !slices.Equal(got, want) {
		t.Errorf("%v of %v: %v, not %v", o, l, got, want)
	}
	over := weigh.Walk(o, slices.Values(l))
	for range 2 {
		if got := slices.Collect(over); !slices.Equal(got, want) {
			t.Errorf("a walk, %v of %v: %v, not %v", o, l, got, want)
		}
	}
	fourth, none := 0, 0 // how many have the fourth weight alone, and none at all
	for _, w := range want {
		switch {
		case w == (api.Weights{}):
			none++
		case w[0] == 0 && w[1] == 0 && w[2] == 0:
			fourth++
		}
	}
	if got := weigh.Ignored(o, l...); got < fourth || got > fourth+none {
		t.Errorf("%v of %v: %d ignored, not %d", o, l, got, fourth)
	}
	if !slices.Equal(l, kept) {
		t.Error("what was handed in was changed")
	}
}

func TestP15_1Plain(t *testing.T) {
	for _, o := range []api.Options{plain, {Levels: 1}, {Levels: 2}, {Levels: 4}} {
		weighs(t, o, nil)
		weighs(t, o, []api.Element{variable(0x209, 0x20, 2), el(0, 0x32, 2), el(0x1c47, 0x20, 2), el(0, 0, 0), el(0, 0, 7), variable(1, 2, 3)},
			api.Weights{0x209, 0x20, 2, 0}, api.Weights{0, 0x32, 2, 0}, api.Weights{0x1c47, 0x20, 2, 0}, api.Weights{}, api.Weights{0, 0, 7, 0}, api.Weights{1, 2, 3, 0})
	}
}

func TestP15_1Shifted(t *testing.T) {
	for _, o := range []api.Options{shifted, {Shifted: true, Levels: 1}, {Shifted: true, Levels: 2}, {Shifted: true, Levels: 3}} {
		weighs(t, o, nil)
		weighs(t, o, []api.Element{variable(0x209, 0x20, 2), el(0, 0x32, 2), el(0x1c47, 0x20, 2)},
			api.Weights{0, 0, 0, 0x209}, api.Weights{}, api.Weights{0x1c47, 0x20, 2, 65535})
		// without a variable one ahead
		weighs(t, o, []api.Element{el(0, 0x32, 2), el(0, 0, 2), el(0, 0, 0), el(1, 2, 3), el(0, 0x32, 2), el(0, 0, 9)},
			api.Weights{0, 0x32, 2, 65535}, api.Weights{0, 0, 2, 65535}, api.Weights{}, api.Weights{1, 2, 3, 65535}, api.Weights{0, 0x32, 2, 65535}, api.Weights{0, 0, 9, 65535})
		// behind a variable one, as long as none has a primary weight
		weighs(t, o, []api.Element{variable(5, 6, 7), el(0, 0, 0), el(0, 8, 9), el(0, 0, 9), variable(4, 4, 4), el(0, 1, 1), el(3, 3, 3), el(0, 8, 9), el(0, 0, 0)},
			api.Weights{0, 0, 0, 5}, api.Weights{}, api.Weights{}, api.Weights{}, api.Weights{0, 0, 0, 4}, api.Weights{}, api.Weights{3, 3, 3, 65535}, api.Weights{0, 8, 9, 65535}, api.Weights{})
		// a primary weight alone (an implicit one)
		weighs(t, o, []api.Element{el(0xfb40, 32, 2), el(0xce00, 0, 0), el(0, 1, 1)},
			api.Weights{0xfb40, 32, 2, 65535}, api.Weights{0xce00, 0, 0, 65535}, api.Weights{0, 1, 1, 65535})
		weighs(t, o, []api.Element{variable(1, 1, 1), el(0xce00, 0, 0), el(0, 1, 1)},
			api.Weights{0, 0, 0, 1}, api.Weights{0xce00, 0, 0, 65535}, api.Weights{0, 1, 1, 65535})
	}
}

func TestP15_1May(t *testing.T) {
	l := []api.Element{el(1, 2, 3)}
	for levels := -2; levels < 8; levels++ {
		for _, s := range []bool{false, true} {
			o := api.Options{Shifted: s, Levels: levels}
			is := levels >= 1 && levels <= 4
			if weigh.May(o) != is || len(weigh.Of(o, l...)) > 0 != is || len(slices.Collect(weigh.Walk(o, slices.Values(l)))) > 0 != is {
				t.Errorf("%v: %v", o, weigh.May(o))
			}
			if n := weigh.Ignored(o, variable(5, 1, 1)); n > 0 != (is && s) {
				t.Errorf("%v: %d", o, n)
			}
		}
	}
	if weigh.May(api.Options{Levels: 1 << 62}) || weigh.May(api.Options{Levels: -1 << 63}) {
		t.Error("great numbers")
	}
}

func TestP15_1Walk(t *testing.T) {
	taken, ended := 0, 0
	over := weigh.Walk(shifted, func(yield func(api.Element) bool) {
		defer func() { ended++ }()
		for i := range 5 {
			taken++
			if !yield(el(uint16(i), 1, 1)) {
				return
			}
		}
	})
	if taken != 0 {
		t.Error("it was gone over ahead of time")
	}
	for w := range over {
		if w[0] == 1 {
			break
		}
	}
	if taken != 2 || ended != 1 {
		t.Error(taken, ended)
	}
	// What stood behind a variable one does not go on when it is gone through again.
	over = weigh.Walk(shifted, slices.Values([]api.Element{el(0, 1, 1), variable(9, 9, 9)}))
	for range 3 {
		if got := slices.Collect(over); !slices.Equal(got, []api.Weights{{0, 1, 1, 65535}, {0, 0, 0, 9}}) {
			t.Error(got)
		}
	}
	for w := range weigh.Walk(shifted, nil) {
		t.Error(w)
	}
}

func TestP15_3WhatFollows(t *testing.T) {
	all := []api.Element{el(0, 0, 0), el(0, 0, 1), el(0, 1, 1), el(7, 1, 1), variable(5, 1, 1)}
	for _, a := range all {
		for _, b := range all {
			for _, c := range all {
				for _, e := range all {
					l, r := []api.Element{a, b}, []api.Element{c, e}
					both := append(slices.Clone(l), r...)
					apart := append(weigh.Of(plain, l...), weigh.Of(plain, r...)...)
					if got := weigh.Of(plain, both...); !slices.Equal(got, apart) {
						t.Errorf("%v: %v", both, got)
					}
					apart = append(weigh.Of(shifted, l...), weigh.Of(shifted, r...)...)
					if got := weigh.Of(shifted, both...); !b.Variable && b.P != 0 && !slices.Equal(got, apart) {
						t.Errorf("%v: %v", both, got)
					}
				}
			}
		}
	}
}
