package message

import (
	"bytes"
	"slices"

	"blazon/api"
	"blazon/entry"
	"blazon/tlv"
)

// The tags of a result's values, and of a request's.
const (
	codeTag    = 1
	yesTag     = 2
	entriesTag = 3
	cursorTag  = 4

	clientTag = 1
	numTag    = 2
	opTag     = 3
)

// MayResult: may it be a result?
func MayResult(r api.Result) bool {
	_, e := ResultBytes(r)
	return e == api.OK
}

// mayFields: may a result's fields be there, but for how many bytes they have?
func mayFields(r api.Result) bool {
	if r.Code != api.OK && (r.Yes || len(r.Entries) > 0 || len(r.Cursor) > 0) {
		return false
	}
	return r.Code >= api.OK && r.Code <= api.ErrOld && len(r.Entries) <= api.MaxMany && len(r.Cursor) <= api.MaxCursor
}

// ResultBytes are a result's bytes.
func ResultBytes(r api.Result) ([]byte, api.Errno) {
	if !mayFields(r) {
		return nil, api.ErrArg
	}
	entries := make([][]byte, len(r.Entries))
	for i, x := range r.Entries {
		b, e := entry.Bytes(x)
		if e != api.OK {
			return nil, e
		}
		entries[i] = b
	}
	w := new(tlv.Writer).Number(codeTag, uint64(r.Code)).Flag(yesTag, r.Yes)
	w.List(entriesTag, len(entries), func(w *tlv.Writer, i int) { w.Bytes(inListTag, entries[i]) })
	return ended(w.Bytes(cursorTag, r.Cursor))
}

// ended is what a writer put: what is too long is no value.
func ended(w *tlv.Writer) ([]byte, api.Errno) {
	b, e := w.End()
	if e != api.OK {
		return nil, api.ErrArg
	}
	return b, api.OK
}

// ResultOf is the result of bytes.
func ResultOf(b []byte) (api.Result, api.Errno) {
	in := tlv.Read(b)
	r := api.Result{Code: api.Errno(small(in, codeTag, uint64(api.ErrOld))), Yes: in.Flag(yesTag)}
	in.List(entriesTag, func(in *tlv.Reader) bool {
		x, e := entry.Of(in.Bytes(inListTag))
		r.Entries = append(r.Entries, x)
		return e == api.OK
	})
	r.Cursor = in.Bytes(cursorTag)
	if in.End() != api.OK || !mayFields(r) {
		return api.Result{}, api.ErrBytes
	}
	return r, api.OK
}

// SameResult: are two results the same?
func SameResult(a, b api.Result) bool {
	return a.Code == b.Code && a.Yes == b.Yes && slices.EqualFunc(a.Entries, b.Entries, entry.Same) && bytes.Equal(a.Cursor, b.Cursor)
}

// CopyResult is a result that shares nothing.
func CopyResult(r api.Result) api.Result {
	var entries []api.Entry
	for _, x := range r.Entries {
		entries = append(entries, entry.Copy(x))
	}
	r.Entries, r.Cursor = entries, slices.Clone(r.Cursor)
	return r
}

// MayRequest: may it be a request?
func MayRequest(r api.Request) bool { return MayOp(r.Op) }

// RequestBytes are a request's bytes.
func RequestBytes(r api.Request) ([]byte, api.Errno) {
	b, e := OpBytes(r.Op)
	if e != api.OK {
		return nil, e
	}
	return ended(new(tlv.Writer).Number(clientTag, r.Client).Number(numTag, r.Num).Bytes(opTag, b))
}

// RequestOf is the request of bytes.
func RequestOf(b []byte) (api.Request, api.Errno) {
	in := tlv.Read(b)
	r := api.Request{Client: in.Number(clientTag), Num: in.Number(numTag)}
	o, e := OpOf(in.Bytes(opTag))
	if in.End() != api.OK || e != api.OK {
		return api.Request{}, api.ErrBytes
	}
	r.Op = o
	return r, api.OK
}

// SameRequest: are two requests the same?
func SameRequest(a, b api.Request) bool {
	return a.Client == b.Client && a.Num == b.Num && SameOp(a.Op, b.Op)
}

// CopyRequest is a request that shares nothing.
func CopyRequest(r api.Request) api.Request {
	r.Op = copyOp(r.Op)
	return r
}
