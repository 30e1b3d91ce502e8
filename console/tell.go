package console

import (
	"strconv"
	"strings"

	"blazon/api"
	"blazon/judge"
	"blazon/match"
	"blazon/replica"
	"blazon/script"
	"blazon/utf"
)

const (
	underWay = "under way"
	free     = "free"
	nothing  = "none"
	right    = "right"
	wrong    = "wrong"
)

// number is a number as a word.
func number[T ~int | ~uint64](n T) string { return strconv.FormatUint(uint64(n), 10) }

// digits are bytes as a word.
func digits(l []byte) string {
	if len(l) == 0 {
		return "-"
	}
	const signs = "0123456789abcdef"
	var b strings.Builder
	for _, c := range l {
		b.WriteByte(signs[c>>4])
		b.WriteByte(signs[c&15])
	}
	return b.String()
}

// verdict is a yes or no as a word.
func verdict(is bool) string {
	if is {
		return right
	}
	return wrong
}

// joined are words, one blank between.
func joined(words ...string) string { return strings.Join(words, blank) }

// entryText is an entry's name and attributes, as an operation has them.
func entryText(x api.Entry) string {
	// Whatever entry may be can be added.
	s, _ := script.OpText(api.Op{Kind: api.OpAdd, Name: x.Name, Attrs: x.Attrs})
	_, words, _ := strings.Cut(s, blank)
	return words
}

// requestText is a request's client, number and operation.
func requestText(client, num uint64, o api.Op) string {
	s, _ := script.OpText(o)
	return joined(number(client), number(num), s)
}

// resultText is a result as words.
func resultText(r api.Result) string {
	if r.Code != api.OK {
		return joined("error", number(r.Code))
	}
	words := []string{"no", digits(r.Cursor)}
	if r.Yes {
		words[0] = "yes"
	}
	for _, x := range r.Entries {
		words = append(words, entryText(x))
	}
	return joined(words...)
}

// alone: is a line just a word, and is there a world?
func (c *Console) alone(line, word string) error {
	switch {
	case line != word:
		return api.ErrBytes
	case !c.Begun():
		return api.ErrState
	}
	return nil
}

// tellHistory tells the calls.
func (c *Console) tellHistory(line string) ([]string, error) {
	if err := c.alone(line, "history"); err != nil {
		return nil, err
	}
	var l []string
	for _, x := range c.world.History() {
		end := underWay
		if x.Done {
			end = resultText(x.Result)
		}
		l = append(l, joined(requestText(x.Client, x.Num, x.Op), number(x.From), number(x.To), end))
	}
	return l, nil
}

// tellOrder tells the requests of the order.
func (c *Console) tellOrder(line string) ([]string, error) {
	if err := c.alone(line, "order"); err != nil {
		return nil, err
	}
	var l []string
	for _, r := range c.world.Order() {
		l = append(l, requestText(r.Client, r.Num, r.Op))
	}
	return l, nil
}

// tellNet tells how much was sent, and how much of it waits.
func (c *Console) tellNet(line string) ([]string, error) {
	if err := c.alone(line, "net"); err != nil {
		return nil, err
	}
	return []string{joined(number(len(c.world.Net())), number(c.world.Waiting()))}, nil
}

// tellJudge tells all verdicts.
func (c *Console) tellJudge(line string) ([]string, error) {
	if err := c.alone(line, "judge"); err != nil {
		return nil, err
	}
	v := judge.All(c.world)
	return []string{joined(verdict(v.Fair), verdict(v.Linear), verdict(v.Agrees), verdict(v.Walks), verdict(v.Lives))}, nil
}

// numbered is the number behind a line's word, if there is a world.
func (c *Console) numbered(line string) (int, error) {
	_, word, _ := strings.Cut(line, blank)
	a, e := script.ActOf(joined("carry", word)) // whose number it is as
	switch {
	case e != api.OK:
		return 0, e
	case !c.Begun():
		return 0, api.ErrState
	}
	return a.N, nil
}

// ofNode is what a function tells of the node whose number stands behind a line's word.
func (c *Console) ofNode(line string, tell func(n *replica.Node) []string) ([]string, error) {
	i, err := c.numbered(line)
	if err != nil {
		return nil, err
	}
	if i > 2*c.world.Setup().F {
		return nil, api.ErrNone
	}
	if n := c.world.Node(i); n != nil {
		return tell(n), nil
	}
	return []string{nothing}, nil
}

// tellNode tells how a node stands.
func (c *Console) tellNode(line string) ([]string, error) {
	return c.ofNode(line, func(n *replica.Node) []string {
		return []string{joined(number(n.Mode()), number(n.View()), number(n.Commit()), number(n.Dropped()))}
	})
}

// tellStore tells the entries of a node's directory.
func (c *Console) tellStore(line string) ([]string, error) {
	return c.ofNode(line, func(n *replica.Node) []string {
		var l []string
		for _, x := range n.Store().All() {
			l = append(l, entryText(x))
		}
		return l
	})
}

// tellClient tells how a client stands.
func (c *Console) tellClient(line string) ([]string, error) {
	n, err := c.numbered(line)
	if err != nil {
		return nil, err
	}
	s := c.world.Session(uint64(n))
	if s == nil {
		return nil, api.ErrNone
	}
	state := free
	if _, under := s.Under(); under {
		state = underWay
	}
	return []string{joined(number(s.Num()), number(s.View()), state)}, nil
}

// quoted are what so many quoted texts behind a line's word say, if there is a world.
func (c *Console) quoted(line string, many int) ([]string, error) {
	_, rest, _ := strings.Cut(line, blank)
	var l []string
	for i := range many {
		end := len(rest)
		if i < many-1 {
			end = quotedEnd(rest)
		}
		text, e := script.Unquote(rest[:end])
		if e != api.OK || len(text) > api.MaxTable {
			return nil, api.ErrBytes
		}
		l = append(l, text)
		if i < many-1 && !strings.HasPrefix(rest[end:], blank) {
			return nil, api.ErrBytes
		}
		rest = strings.TrimPrefix(rest[end:], blank)
	}
	if !c.Begun() {
		return nil, api.ErrState
	}
	return l, nil
}

// quotedEnd is where the quoted text at the beginning of a text ends, if one stands there.
func quotedEnd(s string) int {
	for at := 1; at < len(s); at++ {
		switch s[at] {
		case '"':
			return at + 1
		case '\\':
			at++
		}
	}
	return len(s)
}

// tellName tells a name's text.
func (c *Console) tellName(line string) ([]string, error) {
	l, err := c.quoted(line, 1)
	if err != nil {
		return nil, err
	}
	runes, e := match.Prepare(c.world.Names(), l[0])
	if e != api.OK {
		return nil, e
	}
	s, e := utf.Encode(runes...)
	return []string{script.Quote(s)}, refusal(e)
}

// tellKey tells the key of a name's text.
func (c *Console) tellKey(line string) ([]string, error) {
	l, err := c.quoted(line, 1)
	if err != nil {
		return nil, err
	}
	runes, e := match.Prepare(c.world.Names(), l[0])
	return []string{digits(c.world.Collator().Key(runes...))}, refusal(e)
}

// tellSame tells whether two names are the same.
func (c *Console) tellSame(line string) ([]string, error) {
	l, err := c.quoted(line, 2)
	if err != nil {
		return nil, err
	}
	is, e := match.Same(c.world.Names(), l[0], l[1])
	return []string{verdict(is)}, refusal(e)
}
