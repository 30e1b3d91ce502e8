package message

import (
	"bytes"
	"slices"

	"blazon/api"
	"blazon/entry"
	"blazon/tlv"
)

// The tags of an operation's values, of those of its lists, and of an attribute's.
const (
	opKindTag   = 1
	opNameTag   = 2
	opToTag     = 3
	opAttrsTag  = 4
	opPartsTag  = 5
	opCursorTag = 6
	opManyTag   = 7

	inListTag    = 1
	attrTag      = 3
	attrTypeTag  = 1
	attrValueTag = 2
)

// opFields are which fields a kind of operation names.
type opFields struct{ name, to, attrs, parts, page bool }

// opFieldsOf are which fields a kind names, and is there such a kind?
func opFieldsOf(k api.OpKind) (f opFields, is bool) {
	switch k {
	case api.OpAdd, api.OpModify, api.OpCompare:
		f.attrs = true
		fallthrough
	case api.OpDelete, api.OpLookup:
		f.name = true
	case api.OpRename:
		f.name, f.to = true, true
	case api.OpSearch:
		f.parts = true
		fallthrough
	case api.OpPage:
		f.page = true
	default:
		return f, false
	}
	return f, true
}

// MayOp: may it be an operation?
func MayOp(o api.Op) bool {
	f, is := opFieldsOf(o.Kind)
	return is && mayText(f.name, o.Name) && mayText(f.to, o.To) && mayAttrs(o) && mayParts(f.parts, o.Parts) && mayPage(f.page, o)
}

// mayText: may a name be there, or, where none is named, is there none?
func mayText(named bool, s string) bool { return entry.MayName(s) && (named || s == "") }

// mayAttrs: may an operation's attributes be there?
func mayAttrs(o api.Op) bool {
	switch o.Kind {
	case api.OpAdd:
		return entry.MayAttrs(o.Attrs)
	case api.OpModify:
		return len(o.Attrs) <= api.MaxAttrs && !slices.ContainsFunc(o.Attrs, mayNot)
	case api.OpCompare:
		return len(o.Attrs) == 1 && entry.MayAttr(o.Attrs[0])
	}
	return len(o.Attrs) == 0
}

// mayNot: may it be no attribute?
func mayNot(a api.Attr) bool { return !entry.MayAttr(a) }

// mayParts: may parts be there, or, where none are named, are there none?
func mayParts(named bool, l []string) bool {
	if !named {
		return len(l) == 0
	}
	return len(l) <= api.MaxParts && !slices.ContainsFunc(l, func(s string) bool { return !entry.MayName(s) })
}

// mayPage: may a cursor and a number be there, or, where none are named, are there none?
func mayPage(named bool, o api.Op) bool {
	if !named {
		return len(o.Cursor) == 0 && o.N == 0
	}
	return len(o.Cursor) <= api.MaxCursor && o.N >= 0 && o.N <= api.MaxMany
}

// OpBytes are an operation's bytes.
func OpBytes(o api.Op) ([]byte, api.Errno) {
	if !MayOp(o) {
		return nil, api.ErrArg
	}
	f, _ := opFieldsOf(o.Kind)
	w := new(tlv.Writer).Number(opKindTag, uint64(o.Kind))
	if f.name {
		w.Text(opNameTag, o.Name)
	}
	if f.to {
		w.Text(opToTag, o.To)
	}
	if f.attrs {
		entry.Put(w, opAttrsTag, o.Attrs)
	}
	if f.parts {
		w.List(opPartsTag, len(o.Parts), func(w *tlv.Writer, i int) { w.Text(inListTag, o.Parts[i]) })
	}
	if f.page {
		w.Bytes(opCursorTag, o.Cursor).Number(opManyTag, uint64(o.N))
	}
	return w.End()
}

// OpOf is the operation of bytes.
func OpOf(b []byte) (api.Op, api.Errno) {
	r := tlv.Read(b)
	o := api.Op{Kind: api.OpKind(small(r, opKindTag, uint64(api.OpPage)))}
	f, is := opFieldsOf(o.Kind)
	if !is {
		return api.Op{}, api.ErrBytes
	}
	if f.name {
		o.Name = r.Text(opNameTag)
	}
	if f.to {
		o.To = r.Text(opToTag)
	}
	if f.attrs {
		o.Attrs = takeAttrs(r)
	}
	if f.parts {
		r.List(opPartsTag, func(r *tlv.Reader) bool {
			o.Parts = append(o.Parts, r.Text(inListTag))
			return true
		})
	}
	if f.page {
		o.Cursor = r.Bytes(opCursorTag)
		o.N = small(r, opManyTag, api.MaxMany)
	}
	if r.End() != api.OK || !MayOp(o) {
		return api.Op{}, api.ErrBytes
	}
	return o, api.OK
}

// small takes a number that is at most so great.
func small(r *tlv.Reader, tag byte, most uint64) int {
	n := r.Number(tag)
	if n > most {
		r.Fail()
		return 0
	}
	return int(n)
}

// takeAttrs takes attributes in their order, which need not rise.
func takeAttrs(r *tlv.Reader) []api.Attr {
	var l []api.Attr
	r.List(opAttrsTag, func(r *tlv.Reader) bool {
		in := tlv.Read(r.Bytes(attrTag))
		l = append(l, api.Attr{Type: in.Text(attrTypeTag), Value: in.Text(attrValueTag)})
		return in.End() == api.OK
	})
	return l
}

// SameOp: are two operations the same?
func SameOp(a, b api.Op) bool {
	return a.Kind == b.Kind && a.Name == b.Name && a.To == b.To && slices.Equal(a.Attrs, b.Attrs) && slices.Equal(a.Parts, b.Parts) && bytes.Equal(a.Cursor, b.Cursor) && a.N == b.N
}

// copyOp is an operation that shares nothing.
func copyOp(o api.Op) api.Op {
	o.Attrs, o.Parts, o.Cursor = slices.Clone(o.Attrs), slices.Clone(o.Parts), slices.Clone(o.Cursor)
	return o
}
