// Package utf is layer 1: runes as bytes.
package utf

import (
	"iter"

	"blazon/api"
)

const (
	last1 = 0x7f     // the last rune of one byte
	last2 = 0x7ff    // of two
	last3 = 0xffff   // of three
	last4 = 0x10ffff // of all

	surrogateFirst = 0xd800
	surrogateLast  = 0xdfff

	nextMark = 0x80 // 10 at the top of each byte but the first one
	nextMask = 0xc0 // where that mark stands
	nextBits = 0x3f // the bits behind it
)

// Next is a text's first rune, and how many bytes it has.
func Next(s string) (rune, int, api.Errno) {
	n, r := head(s)
	if n == 0 || n > len(s) {
		goto none
	}
	for i := 1; i < n; i++ {
		if s[i]&nextMask != nextMark {
			goto none
		}
		r = r<<6 | rune(s[i]&nextBits)
	}
	// A rune has one form alone: one that would do with fewer bytes is none.
	if Size(r) != n {
		goto none
	}
	return r, n, api.OK
none:
	return 0, 0, api.ErrUTF
}

// head is how many bytes the first byte tells of (0: it begins no rune), and the bits that it has.
func head(s string) (int, rune) {
	if s == "" {
		return 0, 0
	}
	b := s[0]
	switch {
	case b <= last1:
		return 1, rune(b)
	case b&0xe0 == 0xc0:
		return 2, rune(b & 0x1f)
	case b&0xf0 == 0xe0:
		return 3, rune(b & 0x0f)
	case b&0xf8 == 0xf0:
		return 4, rune(b & 0x07)
	}
	return 0, 0
}

// Decode is a text's runes.
func Decode(s string) ([]rune, api.Errno) {
	l := make([]rune, 0, len(s))
	for at := 0; at < len(s); {
		r, n, e := Next(s[at:])
		if e != api.OK {
			return nil, e
		}
		l = append(l, r)
		at += n
	}
	return l, api.OK
}

// Encode is the text of runes.
func Encode(l ...rune) (string, api.Errno) {
	b := make([]byte, 0, len(l))
	for _, r := range l {
		if !May(r) {
			goto none
		}
		b = put(b, r)
	}
	return string(b), api.OK
none:
	return "", api.ErrArg
}

// put appends a rune's bytes.
func put(b []byte, r rune) []byte {
	n := Size(r)
	b = append(b, first(r, n))
	switch n {
	case 4:
		b = append(b, next(r>>12))
		fallthrough
	case 3:
		b = append(b, next(r>>6))
		fallthrough
	case 2:
		b = append(b, next(r))
	}
	return b
}

// first is the first one of a rune's n bytes.
func first(r rune, n int) byte {
	switch n {
	case 2:
		return 0xc0 | byte(r>>6)
	case 3:
		return 0xe0 | byte(r>>12)
	case 4:
		return 0xf0 | byte(r>>18)
	}
	return byte(r)
}

// next is a later byte, of the lowest six bits.
func next(r rune) byte { return nextMark | byte(r)&nextBits }

// Valid: is a text well made?
func Valid(s string) bool { return Where(s) == len(s) }

// Where is how many of a text's first bytes are well made.
func Where(s string) int {
	at := 0
	for at < len(s) {
		_, n, e := Next(s[at:])
		if e != api.OK {
			break
		}
		at += n
	}
	return at
}

// May: is it a rune?
func May(r rune) bool {
	return r >= 0 && r <= last4 && (r < surrogateFirst || r > surrogateLast)
}

// Size is how many bytes a rune has.
func Size(r rune) int {
	switch {
	case !May(r):
		return 0
	case r <= last1:
		return 1
	case r <= last2:
		return 2
	case r <= last3:
		return 3
	}
	return 4
}

// Runes goes over a text's places and runes, up to where none stands.
func Runes(s string) iter.Seq2[int, rune] {
	return func(yield func(int, rune) bool) {
		for at := 0; at < len(s); {
			r, n, e := Next(s[at:])
			if e != api.OK || !yield(at, r) {
				return
			}
			at += n
		}
	}
}
