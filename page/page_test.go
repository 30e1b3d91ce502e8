package page_test

import (
	"bytes"
	"fmt"
	"slices"
	"strings"
	"testing"

	"blazon/api"
	"blazon/ducet"
	"blazon/match"
	"blazon/page"
	"blazon/sortkey"
	"blazon/store"
)

// of is a directory of these names.
func of(t *testing.T, names ...string) *store.Store {
	t.Helper()
	tables := api.Tables{Weights: "0020 ; [*0209.0020.0002]\n"}
	for c := 'a'; c <= 'z'; c++ {
		tables.Folding += fmt.Sprintf("%04X; C; %04X;\n", c-32, c)
		tables.Weights += fmt.Sprintf("%04X ; [.%04X.0020.0002]\n", c, 0x1000+int(c))
	}
	n, e := match.New(tables)
	if e != api.OK {
		t.Fatal(e)
	}
	table, e := ducet.New(tables.Weights)
	if e != api.OK {
		t.Fatal(e)
	}
	col, e := sortkey.New(n.Data(), table, api.Options{Levels: 3})
	if e != api.OK {
		t.Fatal(e)
	}
	s, e := store.New(n, col, api.Quota{Entries: 1000, Bytes: 1 << 20})
	if e != api.OK {
		t.Fatal(e)
	}
	for _, name := range names {
		add(t, s, name)
	}
	return s
}

// add adds a name.
func add(t *testing.T, s *store.Store, name string, l ...api.Attr) {
	t.Helper()
	if r := s.Do(api.Op{Kind: api.OpAdd, Name: name, Attrs: l}); r.Code != api.OK {
		t.Fatalf("%q: %v", name, r.Code)
	}
}

// remove lets a name go.
func remove(t *testing.T, s *store.Store, name string) {
	t.Helper()
	if r := s.Do(api.Op{Kind: api.OpDelete, Name: name}); r.Code != api.OK {
		t.Fatalf("%q: %v", name, r.Code)
	}
}

// text is entries' names.
func text(l []api.Entry) string {
	var names []string
	for _, e := range l {
		names = append(names, e.Name)
	}
	return strings.Join(names, ",")
}

func TestP21_1Of(t *testing.T) {
	s := of(t, "c", "A b", "a", "d")
	for _, x := range []struct {
		cursor, want, next string
		n                  int
		e                  api.Errno
	}{
		{"", "a,A b", "\x01A b", 2, api.OK}, {"\x01A b", "c,d", "", 2, api.OK}, {"\x01a  B", "c", "\x01c", 1, api.OK}, {"", "a,A b,c,d", "", 1000, api.OK}, {"\x01d", "", "", 9, api.OK}, {"\x01", "a", "\x01a", 1, api.OK},
		{"", "", "", 0, api.ErrArg}, {"", "", "", -1, api.ErrArg}, {"", "", "", 1001, api.ErrArg}, {"x", "", "", 0, api.ErrArg},
		{"x", "", "", 1, api.ErrCursor}, {"\x01\xff", "", "", 1, api.ErrCursor}, {"\x01" + strings.Repeat("a", 5000), "", "", 1, api.ErrCursor}, {strings.Repeat("a", 4001), "", "", 1, api.ErrCursor},
	} {
		l, next, e := page.Of(s, []byte(x.cursor), x.n)
		if text(l) != x.want || string(next) != x.next || e != x.e {
			t.Errorf("%.20q, %d: %q %q %v", x.cursor, x.n, text(l), next, e)
		}
	}
}

func TestP21_1Search(t *testing.T) {
	s := of(t, "foo", "Foo bar", "bar", "food")
	for _, x := range []struct {
		parts              []string
		cursor, want, next string
		n                  int
		e                  api.Errno
	}{
		{nil, "", "bar,foo", "\x01foo", 2, api.OK}, {[]string{"FOO"}, "", "foo,Foo bar", "\x01Foo bar", 2, api.OK}, {[]string{"foo"}, "\x01Foo bar", "food", "", 2, api.OK}, {[]string{"", "bar"}, "", "bar,Foo bar", "", 2, api.OK},
		{nil, "", "", "", 0, api.ErrArg}, {nil, "", "", "", 1001, api.ErrArg}, {make([]string, 9), "", "", "", 1, api.ErrArg}, {[]string{"\xff"}, "x", "", "", 1, api.ErrArg}, {[]string{strings.Repeat("a", 1001)}, "", "", "", 1, api.ErrArg}, {nil, strings.Repeat("a", 4001), "", "", 1, api.ErrArg},
		{[]string{"\ufffd"}, "x", "", "", 1, api.ErrCursor}, {nil, strings.Repeat("a", 4000), "", "", 1, api.ErrCursor}, {[]string{"", "\ufffd"}, "", "", "", 1, api.ErrProhibited},
	} {
		l, next, e := page.Search(s, x.parts, []byte(x.cursor), x.n)
		if text(l) != x.want || string(next) != x.next || e != x.e {
			t.Errorf("%.20q %.20q, %d: %q %q %v", x.parts, x.cursor, x.n, text(l), next, e)
		}
	}
}

func TestP21_2CursorName(t *testing.T) {
	s := of(t)
	for _, name := range []string{"", "a", "A  b", strings.Repeat("a", 1000)} {
		c, e := page.Cursor(s, name)
		if string(c) != "\x01"+name || e != api.OK {
			t.Errorf("%.20q: %q %v", name, c, e)
		}
		if back, e := page.Name(c); back != name || e != api.OK {
			t.Errorf("%.20q: %q %v", c, back, e)
		}
	}
	for name, want := range map[string]api.Errno{"\xff": api.ErrUTF, strings.Repeat("a", 1000) + "\xff": api.ErrUTF, strings.Repeat("a", 1001): api.ErrLong, "\ufffd": api.ErrProhibited} {
		if c, e := page.Cursor(s, name); len(c) != 0 || e != want {
			t.Errorf("%.20q: %q %v", name, c, e)
		}
	}
	for _, c := range []string{"", "\x00", "a", "\x02\x01a"} {
		if name, e := page.Name([]byte(c)); name != "" || e != api.ErrCursor {
			t.Errorf("%q: %q %v", c, name, e)
		}
	}
}

func TestP21_2Before(t *testing.T) {
	s := of(t)
	rising := []string{"", "\x01", "\x01a", "\x01a b", "\x01aa", "\x01B"}
	for i, a := range rising {
		for j, b := range rising {
			if is, e := page.Before(s, []byte(a), []byte(b)); is != (i < j) || e != api.OK {
				t.Errorf("%q %q: %v %v", a, b, is, e)
			}
		}
	}
	if is, e := page.Before(s, []byte("\x01 A "), []byte("\x01a")); is || e != api.OK {
		t.Error(is, e)
	}
	for _, x := range [][2]string{{"x", ""}, {"", "x"}, {"\x01\ufffd", "\x01a"}, {"\x01a", "\x01\xff"}} {
		if is, e := page.Before(s, []byte(x[0]), []byte(x[1])); is || e != api.ErrCursor {
			t.Errorf("%q: %v %v", x, is, e)
		}
	}
}

func TestP21_2Rises(t *testing.T) {
	s := of(t)
	l := func(names ...string) (l []api.Entry) {
		for _, name := range names {
			l = append(l, api.Entry{Name: name})
		}
		return l
	}
	for i, x := range [][]api.Entry{l(), l("a"), l(""), l("a", "b"), l("", "a", "A b", "aa", "B")} {
		if !page.Rises(s, x...) {
			t.Errorf("%d: %q", i, text(x))
		}
	}
	for i, x := range [][]api.Entry{l("a", "a"), l("a", " A"), l("b", "a"), l("a", "c", "b"), l("\xff"), l("a", "\ufffd"), l(strings.Repeat("a", 1001))} {
		if page.Rises(s, x...) {
			t.Errorf("%d: %.40q", i, text(x))
		}
	}
}

func TestP21_3Walk(t *testing.T) {
	s := of(t, "c", "a", "b", "E", "d")
	for n, want := range map[int]string{1: "a|b|c|d|E", 2: "a,b|c,d|E", 3: "a,b,c|d,E", 5: "a,b,c,d,E", 1000: "a,b,c,d,E", 0: "", -1: "", 1001: ""} {
		over := page.Walk(s, n)
		for range 2 {
			var pages []string
			entries := 0
			for l := range over {
				pages, entries = append(pages, text(l)), entries+len(l)
			}
			if got := strings.Join(pages, "|"); got != want {
				t.Errorf("%d: %q, not %q", n, got, want)
			}
			p, c, e := page.Count(s, n)
			if may := n >= 1 && n <= 1000; may && (p != len(pages) || c != entries || e != api.OK) || !may && (p != 0 || c != 0 || e != api.ErrArg) {
				t.Errorf("%d: %d %d %v", n, p, c, e)
			}
		}
	}
	for l := range page.Walk(s, 2) {
		if text(l) != "a,b" {
			t.Error(text(l))
		}
		break
	}
	if p, c, e := page.Count(of(t), 5); p != 0 || c != 0 || e != api.OK {
		t.Error(p, c, e)
	}
	for l := range page.Walk(of(t), 5) {
		t.Error(l)
	}
}

func TestP21_3WalkBytes(t *testing.T) {
	s := of(t)
	for i := range 100 {
		add(t, s, string(rune('a'+i/26))+string(rune('a'+i%26)), api.Attr{Type: "t", Value: strings.Repeat("x", 997)})
	}
	if p, c, e := page.Count(s, 1000); p != 2 || c != 100 || e != api.OK {
		t.Error(p, c, e)
	}
}

func TestP21Nil(t *testing.T) {
	for _, s := range []*store.Store{nil, {}} {
		l, c, e := page.Of(s, []byte("x"), 0)
		if len(l) != 0 || len(c) != 0 || e != api.ErrNil {
			t.Error(l, c, e)
		}
		if l, c, e = page.Search(s, make([]string, 9), nil, 0); len(l) != 0 || len(c) != 0 || e != api.ErrNil {
			t.Error(l, c, e)
		}
		if c, e = page.Cursor(s, "\xff"); len(c) != 0 || e != api.ErrNil {
			t.Error(c, e)
		}
		if is, e := page.Before(s, nil, []byte("x")); is || e != api.ErrNil {
			t.Error(is, e)
		}
		if p, n, e := page.Count(s, 0); p != 0 || n != 0 || e != api.ErrNil {
			t.Error(p, n, e)
		}
		if page.Rises(s) || page.Rises(s, api.Entry{Name: "a"}) {
			t.Error("nothing rises")
		}
		for l := range page.Walk(s, 1) {
			t.Error(l)
		}
	}
}

func TestP21_4Meanwhile(t *testing.T) {
	// What comes and goes while a walk goes on: it rises, has none twice, and misses none that stays.
	s := of(t)
	var stays []string
	for i := range 26 {
		name := "m" + string(rune('a'+i))
		stays = append(stays, name)
		add(t, s, name)
	}
	n := uint32(7)
	for size := 1; size < 6; size++ {
		there := map[string]struct{}{}
		var seen []api.Entry
		for l := range page.Walk(s, size) {
			seen = append(seen, l...)
			for range 4 {
				n = n*1664525 + 1013904223
				name := string([]byte{'k' + byte(n>>10)%5, 'a' + byte(n>>16)%26})
				if slices.Contains(stays, name) {
					continue
				}
				if _, is := there[name]; is {
					remove(t, s, name)
					delete(there, name)
				} else {
					add(t, s, name)
					there[name] = struct{}{}
				}
			}
			// Even the one at which the next page begins goes.
			if last := l[len(l)-1].Name; !slices.Contains(stays, last) {
				if _, is := there[last]; is {
					remove(t, s, last)
					delete(there, last)
				}
			}
		}
		if !page.Rises(s, seen...) {
			t.Errorf("it does not rise: %s", text(seen))
		}
		for _, name := range stays {
			if !slices.ContainsFunc(seen, func(e api.Entry) bool { return e.Name == name }) {
				t.Errorf("%q is missed: %s", name, text(seen))
			}
		}
		for name := range there {
			remove(t, s, name)
		}
	}
}

func TestP21_1Copies(t *testing.T) {
	s := of(t, "a", "b")
	cursor := []byte("\x01a")
	l, _, _ := page.Of(s, cursor, 1)
	l[0].Name = "changed"
	if !bytes.Equal(cursor, []byte("\x01a")) {
		t.Error("what was handed in was changed")
	}
	if l, _, _ = page.Of(s, cursor, 1); text(l) != "b" {
		t.Error(text(l))
	}
}
