package script

import (
	"strings"

	"blazon/api"
)

// The signs of words.
const (
	blank     = " "
	none      = "-" // of bytes, and of a row
	comma     = ","
	equals    = "="
	quote     = '"'
	backslash = '\\'
	lineEnd   = '\n'
	lineSign  = "\n"
	endLetter = 'n' // what stands for the end of a line behind a backslash
	digits    = "0123456789abcdef"
)

// Quote is a quoted text.
func Quote(s string) string {
	b := make([]byte, 0, len(s)+2)
	b = append(b, quote)
	for i := range len(s) {
		switch c := s[i]; c {
		case lineEnd:
			b = append(b, backslash, endLetter)
		case quote, backslash:
			b = append(b, backslash)
			fallthrough
		default:
			b = append(b, c)
		}
	}
	return string(append(b, quote))
}

// Unquote is what a quoted text says.
func Unquote(s string) (string, api.Errno) {
	r := read(s)
	text := r.quoted()
	if !r.ended() {
		return "", api.ErrBytes
	}
	return text, api.OK
}

// bytesText are bytes as digits.
func bytesText(l []byte) string {
	if len(l) == 0 {
		return none
	}
	b := make([]byte, 0, 2*len(l))
	for _, c := range l {
		b = append(b, digits[c>>4], digits[c&15])
	}
	return string(b)
}

// rowText is a row of texts.
func rowText(l []string) string {
	if len(l) == 0 {
		return none
	}
	return strings.Join(l, comma)
}

// reader reads a text's words, each one behind the one ahead; once something is not there, nothing is.
type reader struct {
	sign   func(sign string) bool   // a sign, if it stands there
	upTo   func(sign string) string // what stands up to a sign, or the end
	quoted func() string            // what a quoted text says
	fail   func()                   // something is not there
	ended  func() bool              // was all there, and is nothing left?
}

// read is a reader of a text.
func read(s string) (r reader) {
	at, failed := 0, false
	r.fail = func() { at, failed = len(s), true }
	r.ended = func() bool { return !failed && at == len(s) }
	r.sign = func(sign string) bool {
		is := !failed && strings.HasPrefix(s[at:], sign)
		if is {
			at += len(sign)
		}
		return is
	}
	r.upTo = func(sign string) string {
		text, _, _ := strings.Cut(s[at:], sign)
		at += len(text)
		return text
	}
	r.quoted = func() string {
		text, many, is := quotedOf(s[at:])
		if at += many; !is {
			r.fail()
		}
		return text
	}
	return r
}

// need reads a sign that must stand there.
func (r reader) need(sign string) {
	if !r.sign(sign) {
		r.fail()
	}
}

// word is what stands up to a blank, or the end.
func (r reader) word() string { return r.upTo(blank) }

// number reads a number that is at most so great.
func (r reader) number(most uint64) uint64 {
	n, is := numberOf(r.word(), most)
	if !is {
		r.fail()
	}
	return n
}

// bytes reads bytes.
func (r reader) bytes() []byte {
	l, is := bytesOf(r.word())
	if !is {
		r.fail()
	}
	return l
}

// row reads a row, whose parts a function reads.
func (r reader) row(part func()) {
	if r.sign(none) {
		return
	}
	part()
	for r.sign(comma) {
		part()
	}
}

// numberOf is the number that a word says.
func numberOf(s string, most uint64) (uint64, bool) {
	if s == "" || len(s) > 1 && s[0] == '0' {
		return 0, false
	}
	n := uint64(0)
	for i := range len(s) {
		c := s[i]
		if c < '0' || c > '9' {
			return 0, false
		}
		d := uint64(c - '0')
		if d > most || n > (most-d)/10 {
			return 0, false
		}
		n = n*10 + d
	}
	return n, true
}

// bytesOf are the bytes that a word says.
func bytesOf(s string) ([]byte, bool) {
	if s == none {
		return nil, true
	}
	if s == "" || len(s)%2 != 0 {
		return nil, false
	}
	l := make([]byte, 0, len(s)/2)
	for i := 0; i < len(s); i += 2 {
		high, low := strings.IndexByte(digits, s[i]), strings.IndexByte(digits, s[i+1])
		if high < 0 || low < 0 {
			return nil, false
		}
		l = append(l, byte(high<<4|low))
	}
	return l, true
}

// quotedOf is what the quoted text at the beginning of a text says, and how many bytes it has.
func quotedOf(s string) (text string, many int, is bool) {
	if s == "" || s[0] != quote {
		return "", 0, false
	}
	var b []byte
	for at := 1; at < len(s); at++ {
		c := s[at]
		switch c {
		case quote:
			return string(b), at + 1, true
		case lineEnd:
			return "", 0, false
		case backslash:
			at++
			if at == len(s) || !strings.ContainsRune(`"\n`, rune(s[at])) {
				return "", 0, false
			}
			if c = s[at]; c == endLetter {
				c = lineEnd
			}
		}
		b = append(b, c)
	}
	return "", 0, false
}
