package reply

import (
	"cubby/api"
	"cubby/text"
	"cubby/token"
	"math"
)

func (c *cursor) pairs() []api.Pair {
	c.text("(")
	var out []api.Pair
	for c.err == api.OK && len(out) < mostPairs {
		out = append(out, c.pair())
		if c.sees(')') {
			return out
		}
		c.text(" ")
	}
	c.fail(api.ErrForm)
	return nil
}

func (c *cursor) pair() api.Pair {
	from := c.at
	c.atom()
	if c.sees('[') {
		if x, ok := c.peek(); ok && x != ']' {
			c.run(inCode, math.MaxInt)
		}
		c.text("]")
		if x, ok := c.peek(); ok && x == '<' {
			c.atom()
		}
	}
	if c.err != api.OK {
		return api.Pair{}
	}
	p := api.Pair{Name: string(c.b[from:c.at])}
	c.text(" ")
	switch x, _ := c.peek(); x {
	case '"', '{':
		p.Lit = true
		p.Value = c.quoted()
	case '(':
		from = c.at
		c.nested()
		if c.err == api.OK {
			p.Value = string(c.b[from:c.at])
		}
	default:
		p.Value = c.atom()
	}
	return p
}

// nested goes behind a bracket that is shut, with all that is between.
func (c *cursor) nested() {
	for depth := 0; c.err == api.OK; {
		x, ok := c.peek()
		switch {
		case !ok:
			return
		case x == '"' || x == '{':
			c.quoted()
			continue
		case !inLine(x):
			c.fail(api.ErrForm)
			return
		case x == '(':
			depth++
		case x == ')':
			depth--
		}
		c.at++
		if depth == 0 {
			return
		}
	}
}

// quoted is what a quoted text, or a literal, says.
func (c *cursor) quoted() string {
	from := c.at
	switch {
	case c.sees('"'):
		c.inner()
	case c.sees('{'):
		c.literal()
	default:
		c.fail(api.ErrForm)
	}
	if c.err != api.OK {
		return ""
	}
	l, e := token.Lex(c.b[from:c.at])
	if e != api.OK || len(l) != 1 {
		c.fail(api.ErrForm)
		return ""
	}
	return l[0].S
}

// inner goes behind a quoted text's end.
func (c *cursor) inner() {
	for {
		x, ok := c.peek()
		if !ok {
			return
		}
		c.at++
		switch {
		case x == '"':
			return
		case x == '\\':
			if y, ok := c.peek(); !ok || y != '"' && y != '\\' {
				c.fail(api.ErrForm)
				return
			}
			c.at++
		case x == 0 || x > 0x7f || x == '\r' || x == '\n':
			c.fail(api.ErrForm)
			return
		}
	}
}

// literal goes behind a literal's end.
func (c *cursor) literal() {
	n, ok := text.Number(c.run(digit, 10), api.MaxLiteral)
	if !ok {
		c.fail(api.ErrForm)
	}
	c.text("}\r\n")
	for range n {
		if x, ok := c.peek(); !ok || x == 0 {
			c.fail(api.ErrForm)
			return
		}
		c.at++
	}
}
