package script

import (
	"bytes"
	"iter"
	"math"
	"strconv"
	"strings"

	"blazon/api"
	"blazon/message"
)

const greatestWho = 6

// Names goes over the acts' words.
func Names() iter.Seq2[api.ActKind, string] {
	return func(yield func(api.ActKind, string) bool) {
		for i, word := range []string{"ask", "carry", "tick", "retry", "off", "on", "bytes", "all"} {
			if !yield(api.ActAsk+api.ActKind(i), word) {
				return
			}
		}
	}
}

// actWords are which words stand behind the first one.
type actWords struct{ who, op, n, nonce, bytes bool }

// actWordsOf are which words a kind of act has, and is there such a kind?
func actWordsOf(k api.ActKind) (w actWords, is bool) {
	switch k {
	case api.ActCarry:
		w.n = true
		return w, true
	case api.ActCarryAll:
		return w, true
	case api.ActAsk:
		w.op = true
	case api.ActOn:
		w.nonce = true
	case api.ActBytes:
		w.bytes = true
	case api.ActTick, api.ActRetry, api.ActOff:
	default:
		return w, false
	}
	w.who = true
	return w, true
}

// MayAct: may an act be told?
func MayAct(a api.Act) bool {
	w, is := actWordsOf(a.Kind)
	only := api.Act{Kind: a.Kind}
	if w.who {
		only.Who = a.Who
	}
	if w.op {
		only.Op = a.Op
	}
	if w.n {
		only.N = a.N
	}
	if w.nonce {
		only.Nonce = a.Nonce
	}
	if w.bytes {
		only.Bytes = a.Bytes
	}
	if !is || !SameAct(a, only) || w.op && !message.MayOp(a.Op) {
		return false
	}
	return a.Who >= 0 && a.Who <= greatestWho && a.N >= 0 && a.N <= api.MaxNumber && len(a.Bytes) <= api.MaxTold
}

// ActText is an act's text.
func ActText(a api.Act) (string, api.Errno) {
	if !MayAct(a) {
		return "", api.ErrArg
	}
	var l []string
	for k, word := range Names() {
		if k == a.Kind {
			l = append(l, word)
		}
	}
	w, _ := actWordsOf(a.Kind)
	if w.who {
		l = append(l, strconv.Itoa(a.Who))
	}
	if w.op {
		o, e := OpText(a.Op)
		if e != api.OK {
			return "", e
		}
		l = append(l, o)
	}
	if w.n {
		l = append(l, strconv.Itoa(a.N))
	}
	if w.nonce {
		l = append(l, strconv.FormatUint(a.Nonce, 10))
	}
	if w.bytes {
		l = append(l, bytesText(a.Bytes))
	}
	return strings.Join(l, blank), api.OK
}

// ActOf is the act of a text.
func ActOf(s string) (api.Act, api.Errno) {
	r := read(s)
	word := r.word()
	var a api.Act
	for k, name := range Names() {
		if name == word {
			a.Kind = k
		}
	}
	e := api.OK
	w, _ := actWordsOf(a.Kind)
	if w.who {
		r.need(blank)
		a.Who = int(r.number(greatestWho))
	}
	if w.op {
		r.need(blank)
		a.Op, e = OpOf(r.upTo(lineSign))
	}
	if w.n {
		r.need(blank)
		a.N = int(r.number(api.MaxNumber))
	}
	if w.nonce {
		r.need(blank)
		a.Nonce = r.number(math.MaxUint64)
	}
	if w.bytes {
		r.need(blank)
		a.Bytes = r.bytes()
	}
	if !r.ended() || e != api.OK || !MayAct(a) {
		return api.Act{}, api.ErrBytes
	}
	return a, api.OK
}

// SameAct: are two acts the same?
func SameAct(a, b api.Act) bool {
	return a.Kind == b.Kind && a.Who == b.Who && a.N == b.N && message.SameOp(a.Op, b.Op) && a.Nonce == b.Nonce && bytes.Equal(a.Bytes, b.Bytes)
}
