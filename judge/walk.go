package judge

import (
	"bytes"
	"iter"

	"blazon/api"
	"blazon/page"
	"blazon/store"
	"blazon/world"
)

// key is a call's client and number.
type key [2]uint64

// step is a page that goes on where one of the same client's ahead of it ended.
type step struct{ ahead, page api.Call }

// steps goes over the pages that go on where one ahead ended.
func steps(w *world.World) iter.Seq[step] {
	return func(yield func(step) bool) {
		last := map[uint64]api.Call{} // the latest page of each client
		for _, c := range w.History() {
			if !c.Done || c.Op.Kind != api.OpPage || c.Result.Code != api.OK {
				continue
			}
			ahead, is := last[c.Client]
			last[c.Client] = c
			if is && bytes.Equal(c.Op.Cursor, ahead.Result.Cursor) && !yield(step{ahead: ahead, page: c}) {
				return
			}
		}
	}
}

// Walks: do walks over pages rise, and miss nothing?
func Walks(w *world.World) bool {
	if free(w) {
		return true
	}
	s, e := store.New(w.Names(), w.Collator(), w.Setup().Quota)
	if e != api.OK {
		return true
	}
	asked := map[key]step{}
	for x := range steps(w) {
		if !stands(s, x.page) {
			return false
		}
		asked[key{x.page.Client, x.page.Num}] = x
	}
	places := map[key]int{} // where in the order each request stands
	since := map[string]int{}
	for i, r := range w.Order() {
		k := key{r.Client, r.Num}
		places[k] = i
		if done := s.Do(r.Op); done.Code == api.OK && comesOrGoes(r.Op.Kind) {
			since = stood(s, since, i)
		}
		x, is := asked[k]
		if !is {
			continue
		}
		if from, is := places[key{x.ahead.Client, x.ahead.Num}]; is && misses(s, x.page, since, from) {
			return false
		}
	}
	return true
}

// comesOrGoes: does an entry come to a place, or go from one, by a kind of operation?
func comesOrGoes(k api.OpKind) bool {
	return k == api.OpAdd || k == api.OpDelete || k == api.OpRename
}

// stands: do a page's entries stand behind its cursor, rising?
func stands(s *store.Store, c api.Call) bool {
	l := c.Result.Entries
	if len(l) == 0 {
		return true
	}
	at, e := s.At(c.Op.Cursor)
	first, e2 := s.Place(l[0].Name)
	return e == api.OK && e2 == api.OK && bytes.Compare(at, first) < 0 && page.Rises(s, l...)
}

// stood is since which place of the order each entry stands in a directory all the while, from how it was up to the place ahead.
func stood(s *store.Store, since map[string]int, now int) map[string]int {
	next := map[string]int{}
	for place := range s.All() {
		next[string(place)] = now
		if from, is := since[string(place)]; is {
			next[string(place)] = from
		}
	}
	return next
}

// misses: does a page miss an entry that stands all the while since a place of the order, between its cursor and its last one?
func misses(s *store.Store, c api.Call, since map[string]int, from int) bool {
	l := c.Result.Entries
	if len(l) == 0 {
		return false
	}
	on := map[string]int{}
	var last []byte
	for i, x := range l {
		last, _ = s.Place(x.Name)
		on[string(last)] = i
	}
	at, _ := s.At(c.Op.Cursor)
	for place := range s.From(at, true) {
		if bytes.Compare(place, last) > 0 {
			break
		}
		if _, is := on[string(place)]; !is && since[string(place)] <= from {
			return true
		}
	}
	return false
}
