package reply

import (
	"cubby/api"
	"cubby/text"
	"math"
	"strings"
)

// cursor goes through bytes; err is its first fault, behind which it stays. Where the bytes end in a thing, they are short.
type cursor struct {
	b   []byte
	at  int
	err api.Errno
}

// leads is what a word behind "* " leads to.
func leads() map[string]func(*cursor) api.Reply {
	return map[string]func(*cursor) api.Reply{
		"OK": (*cursor).good, "NO": (*cursor).no, "BAD": (*cursor).bad, "BYE": (*cursor).bye,
		"LIST": (*cursor).list, "SEARCH": (*cursor).hits, "FLAGS": (*cursor).flags,
		"CAPABILITY": (*cursor).caps, "STATUS": (*cursor).state,
	}
}

// counted is what a word behind a number leads to.
func counted() map[string]func(*cursor) api.Reply {
	return map[string]func(*cursor) api.Reply{
		"EXISTS": (*cursor).exist, "EXPUNGE": (*cursor).gone, "FETCH": (*cursor).fetch,
	}
}

func read(b []byte) (api.Reply, int, api.Errno) {
	c := &cursor{b: b}
	r := c.reply()
	c.text("\r\n")
	if c.err != api.OK {
		return api.Reply{}, 0, c.err
	}
	return r, c.at, api.OK
}

func (c *cursor) fail(e api.Errno) {
	if c.err == api.OK {
		c.err = e
	}
}

// peek is the next byte, if there is one; else the bytes are short.
func (c *cursor) peek() (byte, bool) {
	if c.err == api.OK && c.at == len(c.b) {
		c.err = api.ErrShort
	}
	if c.err != api.OK {
		return 0, false
	}
	return c.b[c.at], true
}

// text has to stand there.
func (c *cursor) text(s string) {
	for i := range len(s) {
		if x, ok := c.peek(); !ok || x != s[i] {
			c.fail(api.ErrForm)
			return
		}
		c.at++
	}
}

// sees tells whether this byte is next, and goes behind it then.
func (c *cursor) sees(x byte) bool {
	y, ok := c.peek()
	if !ok || x != y {
		return false
	}
	c.at++
	return true
}

// run is the bytes that are such, at least one, and at most so many; behind them another one has to be.
func (c *cursor) run(such func(byte) bool, most int) string {
	from := c.at
	for {
		x, ok := c.peek()
		if !ok || !such(x) {
			break
		}
		c.at++
	}
	if c.err == api.OK && (c.at == from || c.at-from > most) {
		c.fail(api.ErrForm)
	}
	if c.err != api.OK {
		return ""
	}
	return string(c.b[from:c.at])
}

func inAtom(x byte) bool { return x > ' ' && x <= '~' && strings.IndexByte(`(){"[]`, x) < 0 }
func inLine(x byte) bool { return x >= 0x20 && x <= 0x7e }
func inCode(x byte) bool { return inLine(x) && x != ']' }
func great(x byte) bool  { return x >= 'A' && x <= 'Z' }
func digit(x byte) bool  { return x >= '0' && x <= '9' }

func (c *cursor) atom() string { return c.run(inAtom, math.MaxInt) }

func (c *cursor) reply() api.Reply {
	tag := c.atom()
	c.text(" ")
	switch {
	case tag == "+":
		return api.Reply{Tag: tag, Kind: api.ReplyMore, Text: c.line()}
	case tag == "*":
		return c.untagged()
	case len(tag) > longestTag || strings.ContainsAny(tag, "+*%"):
		c.fail(api.ErrForm)
		return api.Reply{}
	}
	return c.tagged(tag)
}

func (c *cursor) tagged(tag string) api.Reply {
	var r api.Reply
	switch c.run(great, math.MaxInt) {
	case "OK":
		r = c.good()
	case "NO":
		r = c.no()
	case "BAD":
		r = c.bad()
	default:
		c.fail(api.ErrForm)
	}
	r.Tag = tag
	return r
}

func (c *cursor) untagged() api.Reply {
	by := leads()
	var n uint32
	if x, ok := c.peek(); ok && digit(x) {
		n = c.number()
		c.text(" ")
		by = counted()
	}
	lead, ok := by[c.run(great, math.MaxInt)]
	if !ok {
		c.fail(api.ErrForm)
		return api.Reply{}
	}
	r := lead(c)
	r.Tag, r.N = "*", n
	if n == 0 && (r.Kind == api.ReplyGone || r.Kind == api.ReplyFetch) {
		c.fail(api.ErrForm)
	}
	return r
}

func (c *cursor) number() uint32 {
	n, ok := text.Number(c.run(digit, 10), math.MaxUint32)
	if !ok {
		c.fail(api.ErrForm)
	}
	return uint32(n)
}

// line is a text that ends a line.
func (c *cursor) line() string {
	if x, ok := c.peek(); ok && x == '[' {
		c.fail(api.ErrForm)
	}
	return c.run(inLine, longestText)
}

func (c *cursor) verdict(kind int) api.Reply {
	c.text(" ")
	r := api.Reply{Kind: kind}
	if c.sees('[') {
		r.Code = c.run(inCode, longestCode)
		c.text("] ")
	}
	r.Text = c.line()
	return r
}

func (c *cursor) good() api.Reply { return c.verdict(api.ReplyOk) }
func (c *cursor) no() api.Reply   { return c.verdict(api.ReplyNo) }
func (c *cursor) bad() api.Reply  { return c.verdict(api.ReplyBad) }
func (c *cursor) bye() api.Reply  { return c.verdict(api.ReplyBye) }

func (c *cursor) exist() api.Reply { return api.Reply{Kind: api.ReplyExist} }
func (c *cursor) gone() api.Reply  { return api.Reply{Kind: api.ReplyGone} }

func (c *cursor) fetch() api.Reply {
	c.text(" ")
	return api.Reply{Kind: api.ReplyFetch, Pairs: c.pairs()}
}

func (c *cursor) list() api.Reply {
	c.text(" ")
	l := c.brackets()
	c.text(` "/" `)
	return api.Reply{Kind: api.ReplyList, Flags: l, Text: c.name()}
}

func (c *cursor) flags() api.Reply {
	c.text(" ")
	return api.Reply{Kind: api.ReplyFlags, Flags: c.brackets()}
}

func (c *cursor) state() api.Reply {
	c.text(" ")
	s := c.name()
	c.text(" ")
	return api.Reply{Kind: api.ReplyState, Text: s, Pairs: c.pairs()}
}

func (c *cursor) hits() api.Reply {
	r := api.Reply{Kind: api.ReplyHits}
	for c.sees(' ') {
		r.Nums = append(r.Nums, c.number())
		if len(r.Nums) > mostWords {
			c.fail(api.ErrForm)
		}
	}
	return r
}

func (c *cursor) caps() api.Reply {
	r := api.Reply{Kind: api.ReplyCaps}
	for c.sees(' ') {
		r.Flags = append(r.Flags, c.atom())
		if len(r.Flags) > mostWords {
			c.fail(api.ErrForm)
		}
	}
	return r
}

// brackets is flags between brackets.
func (c *cursor) brackets() []string {
	c.text("(")
	if c.sees(')') {
		return nil
	}
	var out []string
	for c.err == api.OK && len(out) < mostWords {
		out = append(out, c.atom())
		if c.sees(')') {
			return out
		}
		c.text(" ")
	}
	c.fail(api.ErrForm)
	return nil
}

func (c *cursor) name() string {
	s := c.quoted()
	if s == "" || len(s) > longestName {
		c.fail(api.ErrForm)
	}
	return s
}
