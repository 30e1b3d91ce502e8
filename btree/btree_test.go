package btree_test

import (
	"bytes"
	"maps"
	"slices"
	"testing"

	"blazon/api"
	"blazon/btree"
)

// of is a tree of a degree with these keys, put in order, each with its place as its value.
func of(t *testing.T, degree int, keys ...string) *btree.Tree[int] {
	t.Helper()
	x, e := btree.New[int](degree)
	if x == nil || e != api.OK {
		t.Fatal(degree, e)
	}
	for i, k := range keys {
		if old, was := x.Put([]byte(k), i); old != 0 || was {
			t.Fatalf("%q: %d %v", k, old, was)
		}
	}
	return x
}

// shaped fails the test unless a tree's shape is one that may be, of so many keys.
func shaped(t *testing.T, x *btree.Tree[int], many int) {
	t.Helper()
	shape, d, sum, nodes := x.Shape(), x.Degree(), 0, 1
	if many == 0 && len(shape) != 0 || x.Len() != many {
		t.Fatalf("%d keys: %v", many, shape)
	}
	for i, level := range shape {
		if len(level) != nodes {
			t.Fatalf("%v: %d nodes at %d, not %d", shape, len(level), i, nodes)
		}
		nodes = 0
		for _, n := range level {
			if n > 2*d-1 || i > 0 && n < d-1 || n < 1 {
				t.Fatalf("%v: a node of %d keys, degree %d", shape, n, d)
			}
			sum, nodes = sum+n, nodes+n+1
		}
	}
	if sum != many {
		t.Fatalf("%v: %d keys, not %d", shape, sum, many)
	}
}

// has fails the test unless a tree has just what a map has.
func has(t *testing.T, x *btree.Tree[int], want map[string]int) {
	t.Helper()
	keys := slices.Sorted(maps.Keys(want))
	at := 0
	for k, v := range x.All() {
		if at >= len(keys) || string(k) != keys[at] || v != want[keys[at]] {
			t.Fatalf("%q %d at %d, not %q", k, v, at, keys)
		}
		at++
	}
	if at != len(keys) || x.Len() != len(keys) {
		t.Fatalf("%d keys, %d, not %d", at, x.Len(), len(keys))
	}
	shaped(t, x, len(want))
}

func TestP18_1New(t *testing.T) {
	for degree := -3; degree < 70; degree++ {
		x, e := btree.New[string](degree)
		if is := degree >= 2 && degree <= 64; is != (e == api.OK) || is != (x != nil) || !is && e != api.ErrArg || is && (x.Degree() != degree || x.Len() != 0 || len(x.Shape()) != 0) {
			t.Errorf("%d: %v", degree, e)
		}
	}
	for _, degree := range []int{1 << 62, -1 << 63} {
		if x, e := btree.New[string](degree); x != nil || e != api.ErrArg {
			t.Errorf("%d: %v", degree, e)
		}
	}
}

func TestP18_1PutGetDelete(t *testing.T) {
	x := of(t, 2)
	k := []byte("b")
	if old, was := x.Put(k, 1); old != 0 || was {
		t.Error(old, was)
	}
	k[0] = 'z'
	if v, is := x.Get([]byte("b")); v != 1 || !is {
		t.Error(v, is)
	}
	if v, is := x.Get([]byte("z")); v != 0 || is {
		t.Error(v, is)
	}
	if old, was := x.Put([]byte("b"), 2); old != 1 || !was || x.Len() != 1 {
		t.Error(old, was)
	}
	if v, is := x.Get([]byte("b")); v != 2 || !is {
		t.Error(v, is)
	}
	if old, was := x.Delete([]byte("a")); old != 0 || was || x.Len() != 1 {
		t.Error(old, was)
	}
	if old, was := x.Delete([]byte("b")); old != 2 || !was || x.Len() != 0 || len(x.Shape()) != 0 {
		t.Error(old, was)
	}
	if old, was := x.Delete([]byte("b")); old != 0 || was {
		t.Error(old, was)
	}
	if v, is := x.Get([]byte("b")); v != 0 || is {
		t.Error(v, is)
	}
	x.Put(nil, 7)
	if v, is := x.Get([]byte{}); v != 7 || !is || x.Len() != 1 {
		t.Error(v, is)
	}
	if old, was := x.Put([]byte{}, 8); old != 7 || !was {
		t.Error(old, was)
	}
}

func TestP18_2FromAll(t *testing.T) {
	keys := []string{"", "a", "a\x00", "a\x00b", "ab", "b", "b\xff", "c", "\x80", "\xff", "\xff\xff"}
	for degree := 2; degree < 5; degree++ {
		x := of(t, degree, keys...)
		for _, strict := range []bool{false, true} {
			for _, from := range append(keys, "0", "aa", "bb", "zz", "\xff\xff\xff") {
				var want []string
				for _, k := range keys {
					if k > from || k == from && !strict {
						want = append(want, k)
					}
				}
				over := x.From([]byte(from), strict)
				for range 2 {
					var got []string
					for k, v := range over {
						got = append(got, string(k))
						if v != slices.Index(keys, string(k)) {
							t.Errorf("%q: %d", k, v)
						}
						for i := range k {
							k[i] = 0
						}
					}
					if !slices.Equal(got, want) {
						t.Errorf("from %q, %v: %q, not %q", from, strict, got, want)
					}
				}
			}
		}
		many := 0
		for range x.All() {
			if many++; many == 3 {
				break
			}
		}
		if many != 3 {
			t.Error(many)
		}
	}
}

func TestP18_2AsCalled(t *testing.T) {
	x := of(t, 2, "a", "b", "c", "d", "e", "f")
	all, from := x.All(), x.From([]byte("c"), false)
	x.Delete([]byte("d"))
	x.Put([]byte("c"), 99)
	x.Put([]byte("g"), 99)
	for range 2 {
		for over, want := range map[string]int{"abcdef": 0, "cdef": 2} {
			which := all
			if want == 2 {
				which = from
			}
			got := ""
			for k, v := range which {
				if got += string(k); v != int(k[0]-'a') {
					t.Errorf("%q: %d", k, v)
				}
			}
			if got != over {
				t.Errorf("%q, not %q", got, over)
			}
		}
	}
	for k := range x.All() {
		x.Delete(k)
		x.Put(append(k, '!'), 1)
	}
	has(t, x, map[string]int{"a!": 1, "b!": 1, "c!": 1, "e!": 1, "f!": 1, "g!": 1})
}

func TestP18_2Copy(t *testing.T) {
	want := map[string]int{}
	x := of(t, 2)
	for i := range 50 {
		k := string(rune('A' + i))
		want[k] = i
		x.Put([]byte(k), i)
	}
	kept := maps.Clone(want)
	c := x.Copy()
	if c.Degree() != 2 {
		t.Error(c.Degree())
	}
	for i := range 50 {
		k := string(rune('A' + i))
		if i%3 == 0 {
			x.Delete([]byte(k))
			delete(want, k)
		} else {
			x.Put([]byte(k+"x"), i)
			x.Put([]byte(k), -i)
			want[k+"x"], want[k] = i, -i
		}
	}
	has(t, x, want)
	has(t, c, kept)
	for k := range kept {
		c.Delete([]byte(k))
	}
	has(t, c, nil)
	has(t, x, want)
}

func TestP18NilAndZero(t *testing.T) {
	for _, x := range []*btree.Tree[int]{nil, {}} {
		old, was := x.Put([]byte("a"), 1)
		v, is := x.Get([]byte("a"))
		gone, did := x.Delete([]byte("a"))
		if old != 0 || was || v != 0 || is || gone != 0 || did || x.Len() != 0 || x.Degree() != 0 || len(x.Shape()) != 0 {
			t.Error("nothing has something")
		}
		for k := range x.All() {
			t.Error(k)
		}
		for k := range x.From(nil, true) {
			t.Error(k)
		}
	}
	var none *btree.Tree[int]
	if none.Copy() != nil {
		t.Error("a copy of nil")
	}
}

func TestP18_3Shape(t *testing.T) {
	x := of(t, 2, "1", "2", "3", "4", "5")
	shaped(t, x, 5)
	shape := x.Shape()
	shape[0][0] = 99
	shaped(t, x, 5)
	if got := of(t, 64, "1", "2").Shape(); len(got) != 1 || !slices.Equal(got[0], []int{2}) {
		t.Error(got)
	}
}

func TestP18_3AnyCalls(t *testing.T) {
	for degree := 2; degree <= 64; degree += 1 + degree/4 {
		x := of(t, degree)
		want := map[string]int{}
		n := uint32(degree)
		for step := range 6000 {
			n = n*1664525 + 1013904223
			k := string([]byte{byte(n >> 24), byte(n >> 16 & 7)})[:1+n>>9&1]
			old, is := want[k]
			// first it grows, then it falls, then it does both
			if grow := step < 2000 || step >= 4000 && n>>12&1 == 0; grow {
				if o, was := x.Put([]byte(k), step); o != old || was != is {
					t.Fatalf("%x: %d %v", k, o, was)
				}
				want[k] = step
			} else {
				if o, was := x.Delete([]byte(k)); o != old || was != is {
					t.Fatalf("%x: %d %v", k, o, was)
				}
				delete(want, k)
			}
			now, there := want[k]
			if v, is := x.Get([]byte(k)); v != now || is != there {
				t.Fatalf("%x: %d %v", k, v, is)
			}
			shaped(t, x, len(want))
			if step%500 == 0 {
				has(t, x, want)
			}
		}
		has(t, x, want)
	}
}

func TestP18_3InOrder(t *testing.T) {
	for _, degree := range []int{2, 3, 7} {
		for _, down := range []bool{false, true} {
			x := of(t, degree)
			for i := range 500 {
				x.Put([]byte{byte(i >> 8), byte(i)}, i)
				shaped(t, x, i+1)
			}
			for i := range 500 {
				at := i
				if down {
					at = 499 - i
				}
				if old, was := x.Delete([]byte{byte(at >> 8), byte(at)}); old != at || !was {
					t.Fatal(at, old, was)
				}
				shaped(t, x, 499-i)
			}
		}
	}
	x := of(t, 3)
	for i := range 300 {
		x.Put(bytes.Repeat([]byte{'a'}, i), i)
	}
	at := 0
	for k, v := range x.All() {
		if len(k) != at || v != at {
			t.Fatal(len(k), v)
		}
		at++
	}
}
