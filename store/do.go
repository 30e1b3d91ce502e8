package store

import (
	"bytes"
	"errors"

	"blazon/api"
	"blazon/entry"
	"blazon/match"
	"blazon/message"
	"blazon/utf"
)

// refused is the result of an operation that is refused.
func refused(e api.Errno) api.Result { return api.Result{Code: e} }

// Do does an operation.
func (s *Store) Do(o api.Op) api.Result {
	switch {
	case s.none():
		return refused(api.ErrNil)
	case !utf.Valid(o.Name) || o.Kind == api.OpRename && !utf.Valid(o.To):
		return refused(api.ErrUTF)
	case !message.MayOp(o):
		return refused(api.ErrArg)
	}
	switch o.Kind {
	case api.OpSearch:
		return s.search(o)
	case api.OpPage:
		return s.page(o, func(item) bool { return true })
	}
	text, place, e := s.prepared(o.Name)
	if e != api.OK {
		return refused(e)
	}
	old, is := s.tree.Get(place)
	switch {
	case o.Kind == api.OpAdd:
		return s.add(o, place, text)
	case o.Kind == api.OpRename:
		return s.rename(o, place)
	case !is:
		return refused(api.ErrNone)
	case o.Kind == api.OpDelete:
		s.take(place)
		return api.Result{}
	case o.Kind == api.OpModify:
		return s.modify(o, place, old)
	case o.Kind == api.OpCompare:
		return api.Result{Yes: s.has(old.entry, o.Attrs[0])}
	}
	return api.Result{Entries: []api.Entry{entry.Copy(old.entry)}}
}

// put puts an item at a place where none stands.
func (s *Store) put(place []byte, x item) {
	s.tree.Put(place, x)
	s.size += sizeOf(x.entry)
}

// take takes what stands at a place away.
func (s *Store) take(place []byte) {
	if old, was := s.tree.Delete(place); was {
		s.size -= sizeOf(old.entry)
	}
}

// add does OpAdd.
func (s *Store) add(o api.Op, place []byte, text []rune) api.Result {
	x := item{entry: entry.Copy(api.Entry{Name: o.Name, Attrs: o.Attrs}), text: text}
	if _, is := s.tree.Get(place); is {
		return refused(api.ErrExists)
	}
	if s.Len() == s.quota.Entries || s.size+sizeOf(x.entry) > s.quota.Bytes {
		return refused(api.ErrFull)
	}
	s.put(place, x)
	return api.Result{}
}

// modify does OpModify to what stands at a place.
func (s *Store) modify(o api.Op, place []byte, old item) api.Result {
	attrs, e := entry.Change(old.entry.Attrs, o.Attrs)
	if e != api.OK {
		return refused(e)
	}
	return s.replace(place, old, place, item{entry: api.Entry{Name: old.entry.Name, Attrs: attrs}, text: old.text})
}

// rename does OpRename to what stands at a place.
func (s *Store) rename(o api.Op, place []byte) api.Result {
	text, to, e := s.prepared(o.To)
	if e != api.OK {
		return refused(e)
	}
	old, is := s.tree.Get(place)
	if !is {
		return refused(api.ErrNone)
	}
	if _, is := s.tree.Get(to); is && !bytes.Equal(place, to) {
		return refused(api.ErrExists)
	}
	return s.replace(place, old, to, item{entry: api.Entry{Name: o.To, Attrs: old.entry.Attrs}, text: text})
}

// replace puts an item at a place for one that stood at another one, or the same, if the quota does.
func (s *Store) replace(from []byte, old item, to []byte, x item) api.Result {
	if s.size-sizeOf(old.entry)+sizeOf(x.entry) > s.quota.Bytes {
		return refused(api.ErrFull)
	}
	s.take(from)
	s.put(to, x)
	return api.Result{}
}

// has: has an entry an attribute of this type, and a value that is the same name?
func (s *Store) has(e api.Entry, a api.Attr) bool {
	for _, b := range e.Attrs {
		if b.Type == a.Type && s.same(b.Value, a.Value) {
			return true
		}
	}
	return false
}

// same: are two values the same name, or, where one can't be prepared, the same bytes?
func (s *Store) same(a, b string) bool {
	same, e := match.Same(s.names, a, b)
	if errors.Is(e, api.ErrProhibited) || errors.Is(e, api.ErrUTF) {
		return a == b
	}
	return same
}

// page is the page of those that fit.
func (s *Store) page(o api.Op, fits func(x item) bool) api.Result {
	place, e := s.At(o.Cursor)
	if e != api.OK {
		return refused(e)
	}
	var r api.Result
	size := 0
	for _, x := range s.items(place, true) {
		if !fits(x) {
			continue
		}
		many := len(r.Entries)
		size += sizeOf(x.entry)
		if many == o.N || many > 0 && size > api.MaxPage {
			if many > 0 {
				r.Cursor = cursorOf(r.Entries[many-1].Name)
			}
			break
		}
		r.Entries = append(r.Entries, entry.Copy(x.entry))
	}
	return r
}

// search does OpSearch.
func (s *Store) search(o api.Op) api.Result {
	if _, e := s.At(o.Cursor); e != api.OK {
		return refused(e)
	}
	var initial, final []rune
	var between [][]rune
	for i, part := range o.Parts {
		if part == "" {
			continue
		}
		p := api.PartAny
		if i == 0 {
			p = api.PartInitial
		} else if i == len(o.Parts)-1 {
			p = api.PartFinal
		}
		text, e := match.Part(s.names, p, part)
		if e != api.OK {
			return refused(e)
		}
		switch p {
		case api.PartInitial:
			initial = text
		case api.PartFinal:
			final = text
		default:
			between = append(between, text)
		}
	}
	return s.page(o, func(x item) bool { return match.Within(x.text, initial, between, final) })
}
