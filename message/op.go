package message

import (
	"slices"

	"blazon/api"
	"blazon/entry"
)

// opFields are which fields a kind of operation names.
type opFields struct{ name, to, attrs, parts, page bool }

// fieldsOf are which fields a kind names, and is there such a kind?
func fieldsOf(k api.OpKind) (f opFields, is bool) {
	switch k {
	case api.OpAdd, api.OpModify, api.OpCompare:
		f.attrs = true
		fallthrough
	case api.OpDelete, api.OpLookup:
		f.name = true
	case api.OpRename:
		f.name, f.to = true, true
	case api.OpSearch:
		f.parts = true
		fallthrough
	case api.OpPage:
		f.page = true
	default:
		return f, false
	}
	return f, true
}

// MayOp: may it be an operation?
func MayOp(o api.Op) bool {
	f, is := fieldsOf(o.Kind)
	return is && mayText(f.name, o.Name) && mayText(f.to, o.To) && mayAttrs(o) && mayParts(f.parts, o.Parts) && mayPage(f.page, o)
}

// mayText: may a name be there, or, where none is named, is there none?
func mayText(named bool, s string) bool { return entry.MayName(s) && (named || s == "") }

// mayAttrs: may an operation's attributes be there?
func mayAttrs(o api.Op) bool {
	switch o.Kind {
	case api.OpAdd:
		return entry.MayAttrs(o.Attrs)
	case api.OpModify:
		return len(o.Attrs) <= api.MaxAttrs && !slices.ContainsFunc(o.Attrs, mayNot)
	case api.OpCompare:
		return len(o.Attrs) == 1 && entry.MayAttr(o.Attrs[0])
	}
	return len(o.Attrs) == 0
}

// mayNot: may it be no attribute?
func mayNot(a api.Attr) bool { return !entry.MayAttr(a) }

// mayParts: may parts be there, or, where none are named, are there none?
func mayParts(named bool, l []string) bool {
	if !named {
		return len(l) == 0
	}
	return len(l) <= api.MaxParts && !slices.ContainsFunc(l, func(s string) bool { return !entry.MayName(s) })
}

// mayPage: may a cursor and a number be there, or, where none are named, are there none?
func mayPage(named bool, o api.Op) bool {
	if !named {
		return len(o.Cursor) == 0 && o.N == 0
	}
	return len(o.Cursor) <= api.MaxCursor && o.N >= 0 && o.N <= api.MaxMany
}
