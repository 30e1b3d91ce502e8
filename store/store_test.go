package store_test

import (
	"bytes"
	"fmt"
	"slices"
	"strings"
	"testing"

	"blazon/api"
	"blazon/ducet"
	"blazon/match"
	"blazon/sortkey"
	"blazon/store"
)

// tables fold A to Z, and weigh a to z, a space and an acute.
func tables() api.Tables {
	t := api.Tables{Data: "0301;ACUTE;Mn;230;;;;;;;;;;;\n", Weights: "0020 ; [*0209.0020.0002]\n0301 ; [.0000.0024.0002]\n"}
	for c := 'a'; c <= 'z'; c++ {
		t.Folding += fmt.Sprintf("%04X; C; %04X;\n", c-32, c)
		t.Weights += fmt.Sprintf("%04X ; [.%04X.0020.0002]\n", c, 0x1000+int(c))
	}
	return t
}

// parts are the names and the collator of the tables.
func parts(t *testing.T, shifted bool) (*match.Names, *sortkey.Collator) {
	t.Helper()
	names, e := match.New(tables())
	if e != api.OK {
		t.Fatal(e)
	}
	table, e := ducet.New(tables().Weights)
	if e != api.OK {
		t.Fatal(e)
	}
	col, e := sortkey.New(names.Data(), table, api.Options{Shifted: shifted, Levels: 3})
	if e != api.OK {
		t.Fatal(e)
	}
	return names, col
}

// of is a directory of a quota.
func of(t *testing.T, entries, size int) *store.Store {
	t.Helper()
	names, col := parts(t, false)
	s, e := store.New(names, col, api.Quota{Entries: entries, Bytes: size})
	if s == nil || e != api.OK {
		t.Fatal(e)
	}
	return s
}

// at is an attribute.
func at(t, v string) api.Attr { return api.Attr{Type: t, Value: v} }

// add is an operation that adds.
func add(name string, l ...api.Attr) api.Op { return api.Op{Kind: api.OpAdd, Name: name, Attrs: l} }

// on is an operation of a kind on a name.
func on(kind api.OpKind, name string, l ...api.Attr) api.Op {
	return api.Op{Kind: kind, Name: name, Attrs: l}
}

// rename is an operation that renames.
func rename(name, to string) api.Op { return api.Op{Kind: api.OpRename, Name: name, To: to} }

// page is an operation that asks for a page.
func page(cursor string, n int) api.Op {
	return api.Op{Kind: api.OpPage, Cursor: []byte(cursor), N: n}
}

// search is an operation that asks for a page of those that fit.
func search(cursor string, n int, parts ...string) api.Op {
	return api.Op{Kind: api.OpSearch, Cursor: []byte(cursor), N: n, Parts: parts}
}

// text is a result as a text.
func text(r api.Result) string {
	s := ""
	if r.Code != api.OK {
		s = r.Code.Error()
	}
	if r.Yes {
		s += "yes"
	}
	for _, e := range r.Entries {
		s += "[" + e.Name
		for _, a := range e.Attrs {
			s += " " + a.Type + "=" + a.Value
		}
		s += "]"
	}
	if len(r.Cursor) > 0 {
		s += fmt.Sprintf("%q", r.Cursor)
	}
	return s
}

// does fails the test unless an operation has this result.
func does(t *testing.T, s *store.Store, o api.Op, want string) {
	t.Helper()
	if got := text(s.Do(o)); got != want {
		t.Errorf("%v: %s, not %s", o, got, want)
	}
}

// has fails the test unless a directory has just these entries, in this order.
func has(t *testing.T, s *store.Store, want string) {
	t.Helper()
	var r api.Result
	size := 0
	var last []byte
	for place, e := range s.All() {
		r.Entries = append(r.Entries, e)
		size += len(e.Name)
		for _, a := range e.Attrs {
			size += len(a.Type) + len(a.Value)
		}
		if bytes.Compare(last, place) >= 0 {
			t.Errorf("%x behind %x", place, last)
		}
		last = place
	}
	if got := text(r); got != want || s.Len() != len(r.Entries) || s.Size() != size {
		t.Errorf("%s, %d, %d, not %s, %d", got, s.Len(), s.Size(), want, size)
	}
}

const (
	errArg        = "error 2"
	errUTF        = "error 5"
	errProhibited = "error 7"
	errNone       = "error 8"
	errExists     = "error 9"
	errFull       = "error 10"
	errCursor     = "error 11"
)

func TestP20_1New(t *testing.T) {
	names, col := parts(t, false)
	for _, x := range []struct {
		n    *match.Names
		c    *sortkey.Collator
		q    api.Quota
		want api.Errno
	}{
		{names, col, api.Quota{}, api.OK}, {names, col, api.Quota{Entries: 1000, Bytes: 1 << 20}, api.OK},
		{nil, col, api.Quota{}, api.ErrNil}, {names, nil, api.Quota{}, api.ErrNil}, {nil, nil, api.Quota{Entries: -1}, api.ErrNil}, {&match.Names{}, col, api.Quota{}, api.ErrNil}, {names, &sortkey.Collator{}, api.Quota{}, api.ErrNil},
		{names, col, api.Quota{Entries: -1}, api.ErrArg}, {names, col, api.Quota{Entries: 1001}, api.ErrArg}, {names, col, api.Quota{Bytes: -1}, api.ErrArg}, {names, col, api.Quota{Bytes: 1<<20 + 1}, api.ErrArg},
	} {
		s, e := store.New(x.n, x.c, x.q)
		if e != x.want || (s != nil) != (e == api.OK) {
			t.Errorf("%v: %v", x.q, e)
		}
		if e == api.OK && (s.Quota() != x.q || s.Names() != names || s.Collator() != col || s.Len() != 0 || s.Size() != 0) {
			t.Errorf("%v: %v", x.q, s.Quota())
		}
	}
}

func TestP20_1Add(t *testing.T) {
	s := of(t, 3, 40)
	does(t, s, add("Ada  L"), "")
	does(t, s, on(api.OpLookup, "ada l"), "[Ada  L]")
	does(t, s, add("ADA L"), errExists)
	does(t, s, add("b", at("a", "1"), at("b", "2")), "")
	has(t, s, "[Ada  L][b a=1 b=2]")
	does(t, s, add("c", at("a", strings.Repeat("x", 28))), errFull) // one byte too many
	does(t, s, add("c", at("a", strings.Repeat("x", 27))), "")
	does(t, s, add(""), errFull) // one entry too many
	does(t, s, add("B"), errExists)
	has(t, s, "[Ada  L][b a=1 b=2][c a="+strings.Repeat("x", 27)+"]")
	does(t, s, add("\xff"), errUTF)
	does(t, s, add("\ufffd"), errProhibited)
	does(t, of(t, 0, 9), add("a"), errFull)
	does(t, of(t, 9, 0), add("a"), errFull)
	does(t, of(t, 1, 0), add(""), "")
}

func TestP20_1Delete(t *testing.T) {
	s := of(t, 9, 99)
	does(t, s, add("a b", at("t", "v")), "")
	does(t, s, add("c"), "")
	does(t, s, on(api.OpDelete, "x"), errNone)
	does(t, s, on(api.OpDelete, "ab"), errNone)
	does(t, s, on(api.OpDelete, " A  B "), "")
	has(t, s, "[c]")
	does(t, s, on(api.OpDelete, "a b"), errNone)
	does(t, s, on(api.OpDelete, "\ufffd"), errProhibited)
	does(t, s, on(api.OpDelete, "\xff"), errUTF)
}

func TestP20_1Modify(t *testing.T) {
	s := of(t, 9, 30)
	does(t, s, add("a", at("cn", "1"), at("sn", "2")), "")
	does(t, s, on(api.OpModify, "A", at("sn", ""), at("cn", "3"), at("b", "4"), at("cn", "2")), "")
	has(t, s, "[a b=4 cn=2 cn=3]")
	does(t, s, on(api.OpModify, "a"), "")
	does(t, s, on(api.OpModify, "x", at("b", "1")), errNone)
	does(t, s, on(api.OpModify, "\ufffd", at("b", "1")), errProhibited)
	does(t, s, on(api.OpModify, "a", at("b", strings.Repeat("x", 23))), errFull)
	has(t, s, "[a b=4 cn=2 cn=3]")
	does(t, s, on(api.OpModify, "a", at("b", strings.Repeat("x", 22))), "")
	has(t, s, "[a b="+strings.Repeat("x", 22)+" cn=2 cn=3]")
	var many []api.Attr
	for i := range 50 {
		many = append(many, at("t", fmt.Sprint("x", i)))
	}
	s = of(t, 9, 999)
	does(t, s, add("a", at("b", "1")), "")
	does(t, s, on(api.OpModify, "a", many...), errFull)
	has(t, s, "[a b=1]")
	does(t, s, on(api.OpModify, "a", many[:49]...), "")
	does(t, s, on(api.OpModify, "x", many...), errNone)
}

func TestP20_1Rename(t *testing.T) {
	s := of(t, 3, 12)
	for _, name := range []string{"a", "b", "c"} {
		does(t, s, add(name, at("t", name)), "")
	}
	does(t, s, rename("a", "d"), "")
	has(t, s, "[b t=b][c t=c][d t=a]")
	does(t, s, rename("b", " B "), "") // its own place
	has(t, s, "[ B  t=b][c t=c][d t=a]")
	does(t, s, rename("b", "C"), errExists)
	does(t, s, rename("x", "C"), errNone)
	does(t, s, rename("x", "y"), errNone)
	does(t, s, rename("c", "abc"), errFull)
	does(t, s, rename("c", "ef"), "")
	has(t, s, "[ B  t=b][d t=a][ef t=c]")
	for _, x := range []struct{ from, to, want string }{
		{"\xff", "\xff", errUTF}, {"b", "\xff", errUTF}, {"\ufffd", "\xff", errUTF}, {"\ufffd", "x", errProhibited}, {"x", "\ufffd", errProhibited}, {"b", "\ufffd", errProhibited}, {"\ufffd", "\ufffd", errProhibited},
	} {
		does(t, s, rename(x.from, x.to), x.want)
	}
	has(t, s, "[ B  t=b][d t=a][ef t=c]")
}

func TestP20_1Compare(t *testing.T) {
	s := of(t, 9, 999)
	does(t, s, add("a", at("cn", "Foo  Bar"), at("cn", "\ufffd"), at("cn", "\ufffdx"), at("sn", "")), "")
	for _, x := range []struct {
		a    api.Attr
		want string
	}{
		{at("cn", " foo bar "), "yes"}, {at("cn", "foobar"), ""}, {at("sn", "foo bar"), ""}, {at("x", "foo bar"), ""}, {at("sn", ""), "yes"}, {at("sn", "  "), "yes"}, {at("cn", ""), ""},
		{at("cn", "\ufffd"), "yes"}, {at("cn", "\ufffdX"), ""}, {at("cn", "\ufffdx"), "yes"}, {at("sn", "\ufffd"), ""},
	} {
		does(t, s, on(api.OpCompare, "A", x.a), x.want)
	}
	does(t, s, on(api.OpCompare, "x", at("cn", "a")), errNone)
	does(t, s, on(api.OpCompare, "\ufffd", at("cn", "a")), errProhibited)
	does(t, s, on(api.OpCompare, "\xff", at("cn", "a")), errUTF)
}

func TestP20_1Lookup(t *testing.T) {
	s := of(t, 9, 999)
	does(t, s, add("a", at("cn", "1")), "")
	does(t, s, on(api.OpLookup, " A"), "[a cn=1]")
	does(t, s, on(api.OpLookup, "b"), errNone)
	does(t, s, on(api.OpLookup, "\ufffd"), errProhibited)
	does(t, s, on(api.OpLookup, "\xff"), errUTF)
	r := s.Do(on(api.OpLookup, "a"))
	r.Entries[0].Attrs[0].Value = "z"
	does(t, s, on(api.OpLookup, "a"), "[a cn=1]")
	l := []api.Attr{at("cn", "1")}
	does(t, s, add("b", l...), "")
	l[0].Value = "z"
	does(t, s, on(api.OpLookup, "b"), "[b cn=1]")
}

func TestP20_1Page(t *testing.T) {
	s := of(t, 9, 999)
	does(t, s, page("", 5), "")
	for _, name := range []string{"A c", "a", "B", "a b", "d\u0301"} {
		does(t, s, add(name), "")
	}
	for _, x := range []struct {
		cursor string
		n      int
		want   string
	}{
		{"", 0, ""}, {"", 1, "[a]\"\\x01a\""}, {"", 2, "[a][a b]\"\\x01a b\""}, {"", 5, "[a][a b][A c][B][d\u0301]"}, {"", 1000, "[a][a b][A c][B][d\u0301]"}, {"", 4, "[a][a b][A c][B]\"\\x01B\""},
		{"\x01a", 2, "[a b][A c]\"\\x01A c\""}, {"\x01A", 1, "[a b]\"\\x01a b\""}, {"\x01 a  C ", 5, "[B][d\u0301]"}, {"\x01aa", 1, "[B]\"\\x01B\""}, {"\x01", 1, "[a]\"\\x01a\""}, {"\x01z", 5, ""}, {"\x01d\u0301", 5, ""}, {"\x01d", 5, "[d\u0301]"}, {"\x01a", 0, ""},
		{"\x00", 1, errCursor}, {"a", 1, errCursor}, {"\x02a", 1, errCursor}, {"\x01\xff", 1, errCursor}, {"\x01\ufffd", 0, errCursor}, {"\x01" + strings.Repeat("a", 1001), 1, errCursor}, {"\x01" + strings.Repeat("a", 1000), 5, "[B][d\u0301]"},
	} {
		does(t, s, page(x.cursor, x.n), x.want)
	}
}

func TestP20_1PageBytes(t *testing.T) {
	s := of(t, 200, 1<<20)
	for i := range 99 {
		// of 1000 bytes each
		l := []api.Attr{at("t", strings.Repeat("x", 997))}
		does(t, s, add(string(rune('a'+i/26))+string(rune('a'+i%26)), l...), "")
	}
	r := s.Do(page("", 1000))
	if len(r.Entries) != api.MaxPage/1000 || string(r.Cursor) != "\x01"+r.Entries[64].Name {
		t.Errorf("%d %q", len(r.Entries), r.Cursor)
	}
	if r = s.Do(page(string(r.Cursor), 1000)); len(r.Entries) != 34 || len(r.Cursor) != 0 {
		t.Errorf("%d %q", len(r.Entries), r.Cursor)
	}
	if r = s.Do(search("", 1000, "", "a")); len(r.Entries) != 4 || len(r.Cursor) != 0 {
		t.Errorf("%d %q", len(r.Entries), r.Cursor)
	}
	if r = s.Do(search("", 1000)); len(r.Entries) != 65 {
		t.Errorf("%d", len(r.Entries))
	}
	// exactly as many bytes as may be, and one more
	for _, more := range []int{0, 1} {
		s = of(t, 200, 1<<20)
		for i := range 64 {
			does(t, s, add("a"+string(rune('a'+i/26))+string(rune('a'+i%26)), at("t", strings.Repeat("x", 996))), "")
		}
		does(t, s, add("b", at("t", strings.Repeat("x", 1000)), at("u", strings.Repeat("x", api.MaxPage-64000-1003+more))), "")
		if r = s.Do(page("", 1000)); len(r.Entries) != 65-more || (len(r.Cursor) > 0) != (more == 1) {
			t.Errorf("%d %q", len(r.Entries), r.Cursor)
		}
	}
	// one at least, however great
	var l []api.Attr
	for i := range 50 {
		l = append(l, at(fmt.Sprintf("t%02d", i), strings.Repeat("x", 1000)))
	}
	var more []api.Attr
	for i := range 50 {
		more = append(more, at(strings.Repeat("t", 20)+fmt.Sprintf("%02d", i), strings.Repeat("\u20ac", 333)))
	}
	s = of(t, 9, 1<<20)
	does(t, s, add("a", l...), "")
	does(t, s, add("b", more...), "")
	does(t, s, add("c"), "")
	if r = s.Do(page("", 9)); len(r.Entries) != 1 || string(r.Cursor) != "\x01a" {
		t.Errorf("%d %q", len(r.Entries), r.Cursor)
	}
}

func TestP20_1Search(t *testing.T) {
	s := of(t, 9, 999)
	for _, name := range []string{"Foo Bar", "foo", "bar foo", "foobar", "b"} {
		does(t, s, add(name), "")
	}
	for _, x := range []struct {
		o    api.Op
		want string
	}{
		{search("", 9), "[b][bar foo][foo][Foo Bar][foobar]"},
		{search("", 9, ""), "[b][bar foo][foo][Foo Bar][foobar]"},
		{search("", 9, "foo"), "[foo][Foo Bar][foobar]"},
		{search("", 9, "FOO B"), "[Foo Bar]"},
		{search("", 9, "", "BAR"), "[Foo Bar][foobar]"},
		{search("", 9, "foo", "bar"), "[Foo Bar][foobar]"},
		{search("", 9, "", " ", "", ""), "[b][bar foo][foo][Foo Bar][foobar]"},
		{search("", 9, "b", "o", "o"), "[bar foo]"},
		{search("", 9, "", "OB", ""), "[foobar]"},
		{search("", 9, "", "o b", ""), "[Foo Bar]"},
		{search("", 9, "", "a", "o", ""), "[bar foo]"},
		{search("", 9, "f", "", "b", ""), "[Foo Bar][foobar]"},
		{search("", 9, "x"), ""},
		{search("", 1, "foo"), "[foo]\"\\x01foo\""},
		{search("", 2, "foo"), "[foo][Foo Bar]\"\\x01Foo Bar\""},
		{search("", 3, "foo"), "[foo][Foo Bar][foobar]"},
		{search("", 1, "b"), "[b]\"\\x01b\""},
		{search("", 2, "b"), "[b][bar foo]"}, // others stand behind, but none that fits
		{search("\x01bar", 9, "b"), "[bar foo]"},
		{search("\x01foo", 1, "", "bar"), "[Foo Bar]\"\\x01Foo Bar\""},
		{search("", 0, "foo"), ""},
		{search("x", 0, "\ufffd"), errCursor},
		{search("\x01", 0, "a", "", "\ufffd"), errProhibited},
		{search("", 1, "\ufffd"), errProhibited},
		{search("", 1, "\xff"), errArg},
		{search("x", 1, "\xff"), errArg},
	} {
		does(t, s, x.o, x.want)
	}
}

func TestP20_1FirstErrors(t *testing.T) {
	s := of(t, 9, 999)
	does(t, s, add("a"), "")
	for i, x := range []struct {
		o    api.Op
		want string
	}{
		{api.Op{}, errArg},
		{api.Op{Kind: 9}, errArg},
		{api.Op{Kind: 9, Name: "\xff"}, errUTF},
		{api.Op{Kind: api.OpPage, Name: "\xff", N: -1}, errUTF},
		{api.Op{Kind: api.OpPage, N: -1}, errArg},
		{api.Op{Kind: api.OpPage, N: 1001}, errArg},
		{api.Op{Kind: api.OpPage, Cursor: bytes.Repeat([]byte{9}, 4001)}, errArg},
		{api.Op{Kind: api.OpPage, Cursor: bytes.Repeat([]byte{9}, 4000)}, errCursor},
		{add(strings.Repeat("a", 1001)), errArg},
		{add("\ufffd", at("b", ""), at("a", "")), errArg},
		{add("\xff", at("b", ""), at("a", "")), errUTF},
		{add("a", at("A", "")), errArg},
		{on(api.OpCompare, "a"), errArg},
		{on(api.OpCompare, "\ufffd", at("a", ""), at("b", "")), errArg},
		{search("", 1, make([]string, 9)...), errArg},
		{rename("\ufffd", strings.Repeat("a", 1001)), errArg},
	} {
		if got := text(s.Do(x.o)); got != x.want {
			t.Errorf("%d: %.100v: %s, not %s", i, x.o, got, x.want)
		}
	}
	has(t, s, "[a]")
}

func TestP20_2Place(t *testing.T) {
	s := of(t, 9, 999)
	place, e := s.Place("Ab")
	want := []byte("\x02\x09\x10\x61\x10\x62\x02\x09\x00\x00\x00\x20\x00\x20\x00\x20\x00\x20\x00\x00\x00\x02\x00\x02\x00\x02\x00\x02\x00\x00\x00\x00\x00 \x00\x00\x00a\x00\x00\x00b\x00\x00\x00 ")
	if !bytes.Equal(place, want) || e != api.OK {
		t.Errorf("%x %v", place, e)
	}
	for name, want := range map[string]api.Errno{"\xff": api.ErrUTF, strings.Repeat("a", 1000) + "\xff": api.ErrUTF, strings.Repeat("a", 1001): api.ErrLong, strings.Repeat("\ufffd", 334): api.ErrLong, "\ufffd": api.ErrProhibited} {
		if place, e := s.Place(name); len(place) != 0 || e != want {
			t.Errorf("%.20q: %x %v", name, place, e)
		}
	}
	a, _ := s.Place("Foo  Bar")
	b, _ := s.Place(" foo bar")
	c, _ := s.Place("foobar")
	if !bytes.Equal(a, b) || bytes.Equal(a, c) || len(c) == 0 {
		t.Errorf("%x %x %x", a, b, c)
	}
}

func TestP20_2At(t *testing.T) {
	s := of(t, 9, 999)
	for _, cursor := range [][]byte{nil, {}} {
		if place, e := s.At(cursor); len(place) != 0 || e != api.OK {
			t.Errorf("%x %v", place, e)
		}
	}
	want, _ := s.Place("a")
	if place, e := s.At([]byte("\x01A")); !bytes.Equal(place, want) || e != api.OK {
		t.Errorf("%x %v", place, e)
	}
	want, _ = s.Place("")
	if place, e := s.At([]byte{1}); !bytes.Equal(place, want) || e != api.OK || len(place) == 0 {
		t.Errorf("%x %v", place, e)
	}
	for _, cursor := range []string{"\x00", "a", "\x02a", "\x01\xff", "\x01\ufffd", "\x01" + strings.Repeat("a", 1001), strings.Repeat("x", 9999)} {
		if place, e := s.At([]byte(cursor)); len(place) != 0 || e != api.ErrCursor {
			t.Errorf("%.20q: %x %v", cursor, place, e)
		}
	}
}

func TestP20_2GetFrom(t *testing.T) {
	s := of(t, 9, 999)
	for _, name := range []string{"c", "A", "b"} {
		does(t, s, add(name, at("t", name)), "")
	}
	b, _ := s.Place("B")
	x, _ := s.Place("bb")
	if e, is := s.Get(b); e.Name != "b" || !is {
		t.Error(e, is)
	} else {
		e.Attrs[0].Value = "z"
	}
	if e, is := s.Get(x); e.Name != "" || len(e.Attrs) != 0 || is {
		t.Error(e, is)
	}
	if _, is := s.Get(nil); is {
		t.Error("nothing is no place")
	}
	for _, q := range []struct {
		place  []byte
		strict bool
		want   string
	}{{nil, false, "Abc"}, {nil, true, "Abc"}, {b, false, "bc"}, {b, true, "c"}, {x, false, "c"}, {x, true, "c"}, {[]byte{255, 255}, false, ""}} {
		over := s.From(q.place, q.strict)
		for range 2 {
			got := ""
			for place, e := range over {
				got += e.Name
				if want, _ := s.Place(e.Name); !bytes.Equal(place, want) || e.Attrs[0] != at("t", e.Name) {
					t.Errorf("%x: %v", place, e)
				}
				place[0], e.Attrs[0].Value = 0, "z"
			}
			if got != q.want {
				t.Errorf("%x %v: %q", q.place, q.strict, got)
			}
		}
	}
	// as they are when it is called; left at any time
	over, all := s.From(b, false), s.All()
	does(t, s, on(api.OpDelete, "b"), "")
	does(t, s, add("d"), "")
	got := ""
	for _, e := range over {
		got += e.Name
	}
	for _, e := range all {
		got += e.Name
		if e.Name == "b" {
			break
		}
	}
	if got != "bcAb" {
		t.Error(got)
	}
	has(t, s, "[A t=A][c t=c][d]")
}

func TestP20_2CopySame(t *testing.T) {
	a, b := of(t, 9, 999), of(t, 9, 999)
	for _, name := range []string{"a", "b", "c"} {
		does(t, a, add(name, at("t", "1")), "")
	}
	for _, name := range []string{"c", "x", "a", "b"} {
		does(t, b, add(name, at("t", "1")), "")
	}
	if a.Same(b) || b.Same(a) {
		t.Error("they are not the same")
	}
	does(t, b, on(api.OpDelete, "x"), "")
	if !a.Same(b) || !b.Same(a) || !a.Same(a) {
		t.Error("they are the same")
	}
	c := a.Copy()
	if !a.Same(c) || c.Quota() != a.Quota() || c.Size() != a.Size() || c.Names() != a.Names() || c.Collator() != a.Collator() {
		t.Error("a copy is not the same")
	}
	does(t, c, rename("a", "A"), "")
	if a.Same(c) {
		t.Error("names differ")
	}
	c = a.Copy()
	does(t, c, on(api.OpModify, "b", at("t", "2")), "")
	if a.Same(c) {
		t.Error("attributes differ")
	}
	c = a.Copy()
	does(t, a, on(api.OpDelete, "c"), "")
	does(t, a, add("d"), "")
	has(t, c, "[a t=1][b t=1][c t=1]")
	has(t, a, "[a t=1][b t=1][d]")
	if of(t, 9, 999).Same(of(t, 9, 998)) || of(t, 9, 999).Same(of(t, 8, 999)) || !of(t, 9, 999).Same(of(t, 9, 999)) {
		t.Error("quotas")
	}
}

func TestP20NilAndZero(t *testing.T) {
	for _, s := range []*store.Store{nil, {}} {
		place, e := s.Place("a")
		cursor, e2 := s.At(nil)
		_, is := s.Get(nil)
		if e != api.ErrNil || e2 != api.ErrNil || len(place)+len(cursor) != 0 || is || s.Len() != 0 || s.Size() != 0 || s.Quota() != (api.Quota{}) || s.Names() != nil || s.Collator() != nil {
			t.Error("nothing has something")
		}
		if r := s.Do(add("\xff")); text(r) != "error 1" {
			t.Error(text(r))
		}
		for range s.All() {
			t.Error("an entry")
		}
		for range s.From(nil, true) {
			t.Error("an entry")
		}
		if !s.Same(nil) || !s.Same(&store.Store{}) || s.Same(of(t, 1, 1)) || of(t, 1, 1).Same(s) {
			t.Error("same")
		}
	}
	var none *store.Store
	if none.Copy() != nil {
		t.Error("a copy of nil")
	}
}

// plain is a directory as a plain list of entries.
type plain struct {
	names   *match.Names
	entries []api.Entry
}

// find is where a name stands in the list (-1: nowhere).
func (p *plain) find(name string) int {
	return slices.IndexFunc(p.entries, func(e api.Entry) bool {
		same, _ := match.Same(p.names, e.Name, name)
		return same
	})
}

// do does an operation on the list.
func (p *plain) do(o api.Op) string {
	i := p.find(o.Name)
	switch {
	case o.Kind == api.OpAdd && i >= 0:
		return errExists
	case o.Kind == api.OpAdd:
		p.entries = append(p.entries, api.Entry{Name: o.Name, Attrs: o.Attrs})
	case i < 0:
		return errNone
	case o.Kind == api.OpDelete:
		p.entries = slices.Delete(p.entries, i, i+1)
	case o.Kind == api.OpRename:
		if j := p.find(o.To); j >= 0 && j != i {
			return errExists
		}
		p.entries[i].Name = o.To
	default:
		return text(api.Result{Entries: p.entries[i : i+1]})
	}
	return ""
}

func TestP20_3PlainList(t *testing.T) {
	s := of(t, 1000, 1<<20)
	p := &plain{names: s.Names()}
	var pool []string
	for _, a := range []string{"", "a", "A", "\u00e1", "a\u0301", "b", "B "} {
		for _, b := range []string{"", " ", "  ", "c", " C", "\u00a0c", "\u00ad"} {
			pool = append(pool, a+b)
		}
	}
	n := uint32(1)
	next := func(m int) int {
		n = n*1664525 + 1013904223
		return int(n>>8) % m
	}
	for range 5000 {
		o := api.Op{Kind: []api.OpKind{api.OpAdd, api.OpDelete, api.OpRename, api.OpLookup}[next(4)], Name: pool[next(len(pool))]}
		switch o.Kind {
		case api.OpAdd:
			o.Attrs = []api.Attr{at("t", fmt.Sprint(next(100)))}
		case api.OpRename:
			o.To = pool[next(len(pool))]
		}
		if got, want := text(s.Do(o)), p.do(o); got != want {
			t.Fatalf("%v: %s, not %s", o, got, want)
		}
		if s.Len() != len(p.entries) {
			t.Fatalf("%d entries, not %d", s.Len(), len(p.entries))
		}
	}
	slices.SortFunc(p.entries, func(a, b api.Entry) int {
		x, _ := s.Place(a.Name)
		y, _ := s.Place(b.Name)
		return bytes.Compare(x, y)
	})
	has(t, s, text(api.Result{Entries: p.entries}))
}

func TestP20_3Order(t *testing.T) {
	names, col := parts(t, true)
	s, _ := store.New(names, col, api.Quota{Entries: 99, Bytes: 999})
	for _, name := range []string{"a c", "ab", "aa", "a b", "a"} {
		does(t, s, add(name), "")
	}
	// Shifted, spaces weigh nothing up to the third level: names of one key stand by their texts.
	has(t, s, "[a][aa][a b][ab][a c]")
}
