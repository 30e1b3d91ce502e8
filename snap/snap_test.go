package snap_test

import (
	"bytes"
	"fmt"
	"slices"
	"strings"
	"testing"

	"blazon/api"
	"blazon/ducet"
	"blazon/entry"
	"blazon/match"
	"blazon/snap"
	"blazon/sortkey"
	"blazon/store"
	"blazon/tlv"
)

// parts are names and a collator that weigh a to z.
func parts(t *testing.T) (*match.Names, *sortkey.Collator) {
	t.Helper()
	var tables api.Tables
	for c := 'a'; c <= 'z'; c++ {
		tables.Folding += fmt.Sprintf("%04X; C; %04X;\n", c-32, c)
		tables.Weights += fmt.Sprintf("%04X ; [.%04X.0020.0002]\n", c, 0x1000+int(c))
	}
	n, e := match.New(tables)
	if e != api.OK {
		t.Fatal(e)
	}
	table, e := ducet.New(tables.Weights)
	if e != api.OK {
		t.Fatal(e)
	}
	col, e := sortkey.New(n.Data(), table, api.Options{Levels: 3})
	if e != api.OK {
		t.Fatal(e)
	}
	return n, col
}

// of is a directory of a quota, with entries of these names.
func of(t *testing.T, entries, size int, names ...string) *store.Store {
	t.Helper()
	n, col := parts(t)
	s, e := store.New(n, col, api.Quota{Entries: entries, Bytes: size})
	if e != api.OK {
		t.Fatal(e)
	}
	for _, name := range names {
		o := api.Op{Kind: api.OpAdd, Name: name, Attrs: []api.Attr{{Type: "t", Value: name}}}
		if r := s.Do(o); r.Code != api.OK {
			t.Fatalf("%q: %v", name, r.Code)
		}
	}
	return s
}

// written is a snapshot's bytes, put by hand.
func written(entries, size uint64, extra string, names ...string) []byte {
	w := new(tlv.Writer).Number(1, entries).Number(2, size)
	w.List(3, len(names), func(w *tlv.Writer, i int) {
		b, _ := entry.Bytes(api.Entry{Name: names[i], Attrs: []api.Attr{{Type: "t", Value: names[i]}}})
		w.Bytes(1, b)
	})
	b, _ := w.Text(4, extra).End()
	return b
}

func TestP22_1Bytes(t *testing.T) {
	b, e := snap.Bytes(of(t, 1, 2), nil)
	want := []byte{1, 0, 0, 0, 8, 0, 0, 0, 0, 0, 0, 0, 1, 2, 0, 0, 0, 8, 0, 0, 0, 0, 0, 0, 0, 2, 3, 0, 0, 0, 0, 4, 0, 0, 0, 0}
	if !bytes.Equal(b, want) || len(b) != 36 || e != api.OK {
		t.Errorf("%x %v", b, e)
	}
	b, e = snap.Bytes(of(t, 9, 999, "c", "A", "b"), []byte("xyz"))
	if !bytes.Equal(b, written(9, 999, "xyz", "A", "b", "c")) || e != api.OK {
		t.Errorf("%x %v", b, e)
	}
	for _, s := range []*store.Store{nil, {}} {
		if b, e = snap.Bytes(s, make([]byte, api.MaxValue+1)); len(b) != 0 || e != api.ErrNil {
			t.Errorf("%d %v", len(b), e)
		}
	}
}

func TestP22_1Long(t *testing.T) {
	s := of(t, 1, 2)
	n, col := parts(t)
	b, e := snap.Bytes(s, make([]byte, api.MaxValue-36))
	if len(b) != api.MaxValue || e != api.OK {
		t.Error(len(b), e)
	}
	if _, extra, e := snap.Of(n, col, b); len(extra) != api.MaxValue-36 || e != api.OK {
		t.Error(len(extra), e)
	}
	for _, more := range []int{-35, 0, 1, 100} {
		if b, e = snap.Bytes(s, make([]byte, api.MaxValue+more)); len(b) != 0 || e != api.ErrLong {
			t.Error(more, len(b), e)
		}
	}
	w := new(tlv.Writer).Number(1, 1).Number(2, 2).List(3, 0, nil)
	b, _ = w.Bytes(4, make([]byte, api.MaxValue-35)).End()
	if s, extra, e := snap.Of(n, col, b); s != nil || len(extra) != 0 || e != api.ErrBytes {
		t.Error(e)
	}
}

func TestP22_1Of(t *testing.T) {
	n, col := parts(t)
	for _, s := range []*store.Store{of(t, 0, 0), of(t, 1, 2), of(t, 1000, 1<<20, "b", "a", "C"), of(t, 3, 9, "b", "a", "")} {
		for _, extra := range []string{"", "x", strings.Repeat("\x00\xff", 5000)} {
			b, e := snap.Bytes(s, []byte(extra))
			if e != api.OK {
				t.Fatal(e)
			}
			kept := slices.Clone(b)
			got, rest, e := snap.Of(n, col, b)
			if e != api.OK || !s.Same(got) || string(rest) != extra || got.Names() != n || got.Collator() != col || !bytes.Equal(b, kept) {
				t.Errorf("%d bytes: %v", len(b), e)
				continue
			}
			if len(rest) > 0 {
				rest[0] = 'z'
			}
			if !bytes.Equal(b, kept) {
				t.Error("an answer shares memory with what was handed in")
			}
		}
	}
	good := written(9, 99, "x", "a", "b")
	if _, _, e := snap.Of(n, col, good); e != api.OK {
		t.Error(e)
	}
	for _, x := range []struct {
		n *match.Names
		c *sortkey.Collator
	}{{nil, col}, {n, nil}, {nil, nil}, {&match.Names{}, col}, {n, &sortkey.Collator{}}} {
		if s, extra, e := snap.Of(x.n, x.c, []byte{1}); s != nil || len(extra) != 0 || e != api.ErrNil {
			t.Error(e)
		}
	}
}

func TestP22_1OfWrong(t *testing.T) {
	n, col := parts(t)
	more, _ := new(tlv.Writer).Text(5, "").End()
	noExtra, _ := new(tlv.Writer).Number(1, 1).Number(2, 2).List(3, 0, nil).End()
	turned, _ := new(tlv.Writer).Number(2, 2).Number(1, 1).List(3, 0, nil).Text(4, "").End()
	other, _ := new(tlv.Writer).Number(1, 1).Number(2, 2).List(3, 1, func(w *tlv.Writer, i int) { w.Text(1, "x") }).Text(4, "").End()
	wrongTag, _ := new(tlv.Writer).Number(1, 1).Number(2, 2).List(3, 1, func(w *tlv.Writer, i int) {
		b, _ := entry.Bytes(api.Entry{})
		w.Bytes(2, b)
	}).Text(4, "").End()
	for i, b := range [][]byte{
		nil, {1}, written(9, 99, "", "b", "a"), written(9, 99, "", "a", "a"), written(9, 99, "", "a", "A"), written(9, 99, "", "a", "c", "b"), written(9, 99, "", "\ufffd"), written(1, 99, "", "a", "b"), written(9, 5, "", "a", "b"),
		written(1001, 99, ""), written(9, 1<<20+1, ""), written(1<<63, 0, ""), written(1<<64-1, 0, ""), written(0, 1<<63, ""), written(1<<32+1, 9, ""),
		append(written(9, 99, ""), 0), append(written(9, 99, ""), more...), noExtra, turned, other, wrongTag,
	} {
		if s, extra, e := snap.Of(n, col, b); s != nil || len(extra) != 0 || e != api.ErrBytes {
			t.Errorf("%d: %v", i, e)
		}
	}
	good := written(9, 99, "x", "a", "b")
	for i := range good {
		if s, _, e := snap.Of(n, col, good[:i]); s != nil || e != api.ErrBytes {
			t.Errorf("%d bytes: %v", i, e)
		}
	}
}

func TestP22_1Same(t *testing.T) {
	a := of(t, 9, 99, "a", "b")
	long := of(t, 9, 99)
	for _, x := range []struct {
		a, b *store.Store
		want bool
	}{
		{a, a, true}, {a, of(t, 9, 99, "b", "a"), true}, {a, of(t, 9, 99, "a"), false}, {a, of(t, 9, 99, "a", "B"), false}, {a, of(t, 8, 99, "a", "b"), false}, {a, of(t, 9, 98, "a", "b"), false},
		{nil, nil, true}, {a, nil, false}, {nil, a, false}, {nil, &store.Store{}, true}, {long, nil, false},
	} {
		if snap.Same(x.a, x.b) != x.want {
			t.Errorf("%v", !x.want)
		}
	}
}

func TestP22_2WhatFollows(t *testing.T) {
	n, col := parts(t)
	// It does not hang on the order in which entries came, nor on others that came and went.
	a, b := of(t, 9, 99, "a", "b", "c"), of(t, 9, 99, "c", "x", "b", "y", "a")
	for _, name := range []string{"y", "x"} {
		b.Do(api.Op{Kind: api.OpDelete, Name: name})
	}
	x, _ := snap.Bytes(a, []byte("z"))
	y, _ := snap.Bytes(b, []byte("z"))
	if !bytes.Equal(x, y) {
		t.Errorf("%x %x", x, y)
	}
	// Bytes that are read are just those of what comes.
	for i := range x {
		for _, bits := range []byte{1, 2, 0x20, 0x80, 0xff} {
			b := slices.Clone(x)
			b[i] ^= bits
			s, extra, e := snap.Of(n, col, b)
			if e != api.OK {
				continue
			}
			if again, e := snap.Bytes(s, extra); !bytes.Equal(again, b) || e != api.OK {
				t.Errorf("%x was read as %x", b, again)
			}
		}
	}
}
