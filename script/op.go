package script

import (
	"strconv"
	"strings"

	"blazon/api"
	"blazon/message"
)

// opWord is the word of a kind of operation.
func opWord(k api.OpKind) string {
	switch k {
	case api.OpAdd:
		return "add"
	case api.OpDelete:
		return "delete"
	case api.OpModify:
		return "modify"
	case api.OpRename:
		return "rename"
	case api.OpCompare:
		return "compare"
	case api.OpLookup:
		return "look"
	case api.OpSearch:
		return "search"
	}
	return "page"
}

// opWords are which words stand behind the first one.
type opWords struct{ name, to, attrs, attr, parts, page bool }

// opWordsOf are which words a kind of operation has.
func opWordsOf(k api.OpKind) (w opWords) {
	switch k {
	case api.OpSearch:
		w.parts = true
		fallthrough
	case api.OpPage:
		w.page = true
		return w
	case api.OpAdd, api.OpModify:
		w.attrs = true
	case api.OpCompare:
		w.attr = true
	case api.OpRename:
		w.to = true
	}
	w.name = true
	return w
}

// attrText is an attribute's text.
func attrText(a api.Attr) string { return a.Type + equals + Quote(a.Value) }

// OpText is an operation's text.
func OpText(o api.Op) (string, api.Errno) {
	if !message.MayOp(o) {
		return "", api.ErrArg
	}
	l := []string{opWord(o.Kind)}
	w := opWordsOf(o.Kind)
	if w.name {
		l = append(l, Quote(o.Name))
	}
	if w.to {
		l = append(l, Quote(o.To))
	}
	if w.attrs || w.attr {
		var row []string
		for _, a := range o.Attrs {
			row = append(row, attrText(a))
		}
		l = append(l, rowText(row))
	}
	if w.parts {
		var row []string
		for _, part := range o.Parts {
			row = append(row, Quote(part))
		}
		l = append(l, rowText(row))
	}
	if w.page {
		l = append(l, bytesText(o.Cursor), strconv.Itoa(o.N))
	}
	return strings.Join(l, blank), api.OK
}

// OpOf is the operation of a text.
func OpOf(s string) (api.Op, api.Errno) {
	r := read(s)
	word := r.word()
	o := api.Op{Kind: api.OpAdd}
	for o.Kind <= api.OpPage && opWord(o.Kind) != word {
		o.Kind++
	}
	attr := func() {
		a := api.Attr{Type: r.upTo(equals)}
		r.need(equals)
		a.Value = r.quoted()
		o.Attrs = append(o.Attrs, a)
	}
	w := opWordsOf(o.Kind)
	if w.name {
		r.need(blank)
		o.Name = r.quoted()
	}
	if w.to {
		r.need(blank)
		o.To = r.quoted()
	}
	if w.attrs {
		r.need(blank)
		r.row(attr)
	}
	if w.attr {
		r.need(blank)
		attr()
	}
	if w.parts {
		r.need(blank)
		r.row(func() { o.Parts = append(o.Parts, r.quoted()) })
	}
	if w.page {
		r.need(blank)
		o.Cursor = r.bytes()
		r.need(blank)
		o.N = int(r.number(api.MaxMany))
	}
	if !r.ended() || !message.MayOp(o) {
		return api.Op{}, api.ErrBytes
	}
	return o, api.OK
}
