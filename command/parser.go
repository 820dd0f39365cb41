package command

import (
	"cubby/api"
	"cubby/flags"
	"cubby/sets"
	"cubby/stamp"
	"cubby/text"
	"cubby/utf7"
	"strings"
)

// parser takes a line's tokens one by one; err is what is answered, if it cannot go on.
type parser struct {
	rest []api.Token
	err  api.Errno
}

func (p *parser) fail(e api.Errno) bool {
	p.err = e
	return false
}

func (p *parser) sees(kind int) bool { return len(p.rest) > 0 && p.rest[0].Kind == kind }

func (p *parser) next(kind int) (string, bool) {
	if !p.sees(kind) {
		return "", false
	}
	s := p.rest[0].S
	p.rest = p.rest[1:]
	return s, true
}

func (p *parser) sign(kind int) bool {
	_, ok := p.next(kind)
	return ok
}

func (p *parser) blank() bool { return p.sign(api.TokSpace) }

func (p *parser) atom() (string, bool) { return p.next(api.TokAtom) }

// word is an atom in great letters.
func (p *parser) word() (string, bool) {
	s, ok := p.atom()
	return strings.ToUpper(s), ok
}

func (p *parser) text() (string, bool) {
	for _, kind := range [...]int{api.TokAtom, api.TokQuoted, api.TokLiteral} {
		if s, ok := p.next(kind); ok {
			return s, true
		}
	}
	return "", false
}

// blankText is one with a blank ahead.
func (p *parser) blankText(to *string) bool {
	if !p.blank() {
		return false
	}
	s, ok := p.text()
	*to = s
	return ok
}

func (p *parser) blankMailbox(to *string) bool {
	var s string
	if !p.blankText(&s) {
		return false
	}
	if text.Small(s) == "inbox" {
		*to = "INBOX"
		return true
	}
	name, e := utf7.Decode(s)
	if e != api.OK || !utf7.Right(name) {
		return false
	}
	*to = name
	return true
}

func (p *parser) blankSet(to *[]api.Range) bool {
	if !p.blank() {
		return false
	}
	s, ok := p.atom()
	return ok && p.set(s, to)
}

func (p *parser) set(s string, to *[]api.Range) bool {
	l, e := sets.Parse(s)
	if e != api.OK {
		return p.fail(e)
	}
	*to = l
	return true
}

// row reads things with one blank between, up to what shuts them.
func (p *parser) row(one func() bool) bool {
	for {
		if !one() {
			return false
		}
		if p.sign(api.TokClose) {
			return true
		}
		if !p.blank() {
			return false
		}
	}
}

func (p *parser) flag(to *[]string) bool {
	s, ok := p.atom()
	*to = append(*to, s)
	return ok
}

// flagList reads flags between brackets, perhaps none.
func (p *parser) flagList(to *[]string) bool {
	if !p.sign(api.TokOpen) {
		return false
	}
	if p.sign(api.TokClose) {
		return true
	}
	return p.row(func() bool { return p.flag(to) })
}

func (p *parser) foldFlags(c *api.Command) bool {
	l, e := flags.All(c.Flags)
	if e != api.OK {
		return p.fail(e)
	}
	c.Flags = l
	return true
}

func only(c *api.Command, kind int) bool {
	c.Kind = kind
	return true
}

func (p *parser) capability(c *api.Command) bool { return only(c, api.CmdCapability) }
func (p *parser) noop(c *api.Command) bool       { return only(c, api.CmdNoop) }
func (p *parser) logout(c *api.Command) bool     { return only(c, api.CmdLogout) }
func (p *parser) check(c *api.Command) bool      { return only(c, api.CmdCheck) }
func (p *parser) shut(c *api.Command) bool       { return only(c, api.CmdClose) }
func (p *parser) expunge(c *api.Command) bool    { return only(c, api.CmdExpunge) }

func (p *parser) expungeSome(c *api.Command) bool {
	c.Kind = api.CmdExpunge
	return p.blankSet(&c.Set)
}

func (p *parser) login(c *api.Command) bool {
	c.Kind = api.CmdLogin
	return p.blankText(&c.Box) && p.blankText(&c.To)
}

func (p *parser) box(c *api.Command, kind int) bool {
	c.Kind = kind
	return p.blankMailbox(&c.Box)
}

func (p *parser) choose(c *api.Command) bool  { return p.box(c, api.CmdSelect) }
func (p *parser) examine(c *api.Command) bool { return p.box(c, api.CmdExamine) }
func (p *parser) create(c *api.Command) bool  { return p.box(c, api.CmdCreate) }
func (p *parser) remove(c *api.Command) bool  { return p.box(c, api.CmdDelete) }

func (p *parser) rename(c *api.Command) bool {
	return p.box(c, api.CmdRename) && p.blankMailbox(&c.To)
}

func (p *parser) list(c *api.Command) bool {
	c.Kind = api.CmdList
	return p.blankPattern(&c.Box) && p.blankPattern(&c.To)
}

func (p *parser) blankPattern(to *string) bool {
	var s string
	if !p.blankText(&s) {
		return false
	}
	name, e := utf7.Decode(s)
	*to = name
	return e == api.OK
}

func (p *parser) status(c *api.Command) bool {
	if !p.box(c, api.CmdStatus) || !p.blank() || !p.sign(api.TokOpen) {
		return false
	}
	return p.row(func() bool {
		word, ok := p.word()
		kind := statusKind(word)
		return ok && kind != 0 && p.item(c, api.Item{Kind: kind})
	})
}

func (p *parser) item(c *api.Command, i api.Item) bool {
	if len(c.Items) == api.MaxItems {
		return p.fail(api.ErrLong)
	}
	c.Items = append(c.Items, i)
	return true
}

func (p *parser) put(c *api.Command) bool {
	if !p.box(c, api.CmdAppend) || !p.blank() {
		return false
	}
	if p.sees(api.TokOpen) {
		if !p.flagList(&c.Flags) || !p.foldFlags(c) || !p.blank() {
			return false
		}
	}
	if s, ok := p.next(api.TokQuoted); ok {
		t, e := stamp.Parse(s)
		if e != api.OK || !p.blank() {
			return false
		}
		c.Date, _ = stamp.Print(t)
	}
	s, ok := p.next(api.TokLiteral)
	c.Data = []byte(s)
	return ok
}

func (p *parser) store(c *api.Command) bool {
	c.Kind = api.CmdStore
	if !p.blankSet(&c.Set) || !p.blank() {
		return false
	}
	what, _ := p.word()
	what, c.Silent = strings.CutSuffix(what, ".SILENT")
	c.Op = storeOp(what)
	if c.Op == 0 || !p.blank() {
		return false
	}
	if p.sees(api.TokOpen) {
		return p.flagList(&c.Flags) && p.foldFlags(c)
	}
	for {
		if !p.flag(&c.Flags) {
			return false
		}
		if !p.blank() {
			return p.foldFlags(c)
		}
	}
}

func (p *parser) copies(c *api.Command) bool {
	c.Kind = api.CmdCopy
	return p.blankSet(&c.Set) && p.blankMailbox(&c.To)
}

func statusKind(word string) int {
	switch word {
	case "MESSAGES":
		return api.ItemMessages
	case "UIDNEXT":
		return api.ItemUidNext
	case "UIDVALIDITY":
		return api.ItemValidity
	case "UNSEEN":
		return api.ItemUnseen
	}
	return 0
}

func storeOp(word string) int {
	switch word {
	case "FLAGS":
		return api.SetFlags
	case "+FLAGS":
		return api.AddFlags
	case "-FLAGS":
		return api.RemoveFlags
	}
	return 0
}

// number reads a number of so many digits at most, without a 0 ahead of others.
func number(s string) (int, bool) {
	n, ok := text.Number(s, greatest)
	return int(n), ok
}
