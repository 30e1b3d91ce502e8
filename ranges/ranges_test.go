package ranges_test

import (
	"slices"
	"testing"

	"blazon/api"
	"blazon/ranges"
)

const most = 1<<31 - 1

// rng is a range.
func rng(lo, hi rune, value int) api.Range { return api.Range{Lo: lo, Hi: hi, Value: value} }

// of is the map of ranges that may be.
func of(t *testing.T, l ...api.Range) *ranges.Map {
	t.Helper()
	m, e := ranges.Of(l...)
	if m == nil || e != api.OK {
		t.Fatalf("%v: %v", l, e)
	}
	return m
}

// has fails the test unless a map has just these ranges.
func has(t *testing.T, m *ranges.Map, want ...api.Range) {
	t.Helper()
	many := 0
	for _, x := range want {
		many += int(x.Hi) - int(x.Lo) + 1
	}
	if got := slices.Collect(m.All()); !slices.Equal(got, want) || m.Len() != len(want) || m.Many() != many {
		t.Errorf("%v (%d, %d), not %v (%d)", got, m.Len(), m.Many(), want, many)
	}
}

func TestP4_1Of(t *testing.T) {
	has(t, of(t))
	has(t, of(t, rng(5, 9, 1), rng(2, 4, 1), rng(12, 12, 1)), rng(2, 9, 1), rng(12, 12, 1))
	has(t, of(t, rng(5, 9, 1), rng(2, 4, 2)), rng(2, 4, 2), rng(5, 9, 1))
	has(t, of(t, rng(5, 9, 1), rng(2, 3, 1)), rng(2, 3, 1), rng(5, 9, 1))
	has(t, of(t, rng(3, 3, 0), rng(1, 1, 0), rng(2, 2, 0), rng(0, 0, 0)), rng(0, 3, 0))
	has(t, of(t, rng(0, most, -7)), rng(0, most, -7))
	has(t, of(t, rng(0, most-1, 1), rng(most, most, 1)), rng(0, most, 1))
	has(t, of(t, rng(most, most, 2), rng(0, 0, 2)), rng(0, 0, 2), rng(most, most, 2))
}

func TestP4_1Wrong(t *testing.T) {
	for _, x := range []struct {
		l    []api.Range
		want api.Errno
	}{
		{[]api.Range{rng(1, 0, 0)}, api.ErrArg},
		{[]api.Range{rng(-1, 0, 0)}, api.ErrArg},
		{[]api.Range{rng(-2, -1, 0)}, api.ErrArg},
		{[]api.Range{rng(0, -1, 0)}, api.ErrArg},
		{[]api.Range{rng(most, 0, 0)}, api.ErrArg},
		{[]api.Range{rng(1, 2, 0), rng(2, 1, 0)}, api.ErrArg},
		{[]api.Range{rng(1, 2, 0), rng(1, 2, 0), rng(-1, 5, 0)}, api.ErrArg},
		{[]api.Range{rng(1, 2, 0), rng(2, 3, 0)}, api.ErrExists},
		{[]api.Range{rng(2, 3, 1), rng(1, 2, 0)}, api.ErrExists},
		{[]api.Range{rng(1, 1, 0), rng(1, 1, 0)}, api.ErrExists},
		{[]api.Range{rng(5, 5, 0), rng(0, 9, 1)}, api.ErrExists},
		{[]api.Range{rng(0, 9, 1), rng(20, 30, 1), rng(3, 4, 2)}, api.ErrExists},
		{[]api.Range{rng(0, most, 1), rng(most, most, 1)}, api.ErrExists},
	} {
		if m, e := ranges.Of(x.l...); m != nil || e != x.want {
			t.Errorf("%v: %v %v", x.l, m, e)
		}
	}
}

func TestP4_1Get(t *testing.T) {
	l := []api.Range{rng(3, 3, 7), rng(5, 9, 0), rng(10, 12, -1), rng(100, most, 4)}
	m := of(t, l...)
	for r := rune(-3); r < 120; r++ {
		value, is := 0, false
		for _, x := range l {
			if x.Lo <= r && r <= x.Hi {
				value, is = x.Value, true
			}
		}
		if v, ok := m.Get(r); v != value || ok != is {
			t.Errorf("%d: %d %v", r, v, ok)
		}
	}
	if v, is := m.Get(most); v != 4 || !is {
		t.Error(v, is)
	}
	if v, is := m.Get(-1 << 31); v != 0 || is {
		t.Error(v, is)
	}
	if v, is := of(t).Get(0); v != 0 || is {
		t.Error(v, is)
	}
}

func TestP4_2All(t *testing.T) {
	over := of(t, rng(5, 6, 1), rng(1, 2, 1), rng(8, 9, 1)).All()
	for range 2 {
		many := 0
		for x := range over {
			many++
			if x.Lo == 5 {
				break
			}
		}
		if many != 2 {
			t.Error(many)
		}
	}
	if got := slices.Collect(over); !slices.Equal(got, []api.Range{rng(1, 2, 1), rng(5, 6, 1), rng(8, 9, 1)}) {
		t.Error(got)
	}
}

func TestP4_2With(t *testing.T) {
	m := of(t, rng(5, 9, 1))
	more, e := m.With(rng(2, 4, 1))
	if e != api.OK {
		t.Fatal(e)
	}
	has(t, more, rng(2, 9, 1))
	has(t, m, rng(5, 9, 1))
	for x, want := range map[api.Range]api.Errno{rng(9, 8, 0): api.ErrArg, rng(-1, 5, 0): api.ErrArg, rng(9, 9, 1): api.ErrExists, rng(0, 5, 1): api.ErrExists, rng(6, 7, 1): api.ErrExists} {
		if n, e := m.With(x); n != nil || e != want {
			t.Errorf("%v: %v", x, e)
		}
	}
	has(t, m, rng(5, 9, 1))
	empty, e := of(t).With(rng(1, 1, 1))
	if e != api.OK {
		t.Fatal(e)
	}
	has(t, empty, rng(1, 1, 1))
}

func TestP4_2NilAndZero(t *testing.T) {
	for _, m := range []*ranges.Map{nil, {}} {
		has(t, m)
		if v, is := m.Get(0); v != 0 || is {
			t.Error(v, is)
		}
		for _, x := range []api.Range{rng(1, 2, 3), rng(2, 1, 0)} {
			if n, e := m.With(x); n != nil || e != api.ErrNil {
				t.Error(n, e)
			}
		}
	}
}

func TestP4_3AnyOrder(t *testing.T) {
	l := []api.Range{rng(0, 2, 1), rng(3, 3, 1), rng(4, 6, 2), rng(8, 8, 2)}
	want := []api.Range{rng(0, 3, 1), rng(4, 6, 2), rng(8, 8, 2)}
	for n := range 4 * 4 * 4 * 4 {
		at := []int{n % 4, n / 4 % 4, n / 16 % 4, n / 64}
		if sorted := slices.Sorted(slices.Values(at)); !slices.Equal(sorted, []int{0, 1, 2, 3}) {
			continue
		}
		named := []api.Range{l[at[0]], l[at[1]], l[at[2]], l[at[3]]}
		kept := slices.Clone(named)
		m := of(t, named...)
		has(t, m, want...)
		if !slices.Equal(named, kept) {
			t.Error("what was handed in was changed")
		}
		named[0] = rng(50, 60, 9)
		has(t, m, want...)
		step, e := ranges.Of()
		for _, x := range kept {
			if step, e = step.With(x); e != api.OK {
				t.Fatal(e)
			}
		}
		has(t, step, want...)
	}
}
