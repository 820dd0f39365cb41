package command

import (
	"cubby/api"
	"cubby/text"
	"strings"
)

const (
	mostNumber   = 999 // of a part
	longestField = 40
	greatest     = 999_999_999 // nine digits
)

func (p *parser) fetch(c *api.Command) bool {
	c.Kind = api.CmdFetch
	if !p.blankSet(&c.Set) || !p.blank() {
		return false
	}
	if p.sign(api.TokOpen) {
		return p.row(func() bool { return p.fetchItem(c) })
	}
	if p.sees(api.TokAtom) {
		if l := macro(strings.ToUpper(p.rest[0].S)); l != nil {
			c.Items = l
			return p.sign(api.TokAtom)
		}
	}
	return p.fetchItem(c)
}

// macro is the items that one name stands for.
func macro(word string) []api.Item {
	all := []api.Item{{Kind: api.ItemFlags}, {Kind: api.ItemDate}, {Kind: api.ItemSize}, {Kind: api.ItemEnvelope}, {Kind: api.ItemStructure}}
	switch word {
	case "FAST":
		return all[:3:3]
	case "ALL":
		return all[:4:4]
	case "FULL":
		return all
	}
	return nil
}

func itemKind(word string) int {
	switch word {
	case "UID":
		return api.ItemUid
	case "FLAGS":
		return api.ItemFlags
	case "RFC822.SIZE":
		return api.ItemSize
	case "INTERNALDATE":
		return api.ItemDate
	case "ENVELOPE":
		return api.ItemEnvelope
	case "BODYSTRUCTURE":
		return api.ItemStructure
	case "BODY", "BODY.PEEK":
		return api.ItemBody
	}
	return 0
}

func (p *parser) fetchItem(c *api.Command) bool {
	word, ok := p.word()
	i := api.Item{Kind: itemKind(word), Peek: word == "BODY.PEEK"}
	if !ok || i.Kind == 0 || i.Kind == api.ItemBody && !p.body(&i) {
		return false
	}
	return p.item(c, i)
}

func (p *parser) body(i *api.Item) bool {
	if !p.sign(api.TokLeft) || !p.section(&i.Section) || !p.sign(api.TokRight) {
		return false
	}
	s, ok := p.atom()
	return !ok || partial(s, i)
}

// partial reads <from.count>.
func partial(s string, i *api.Item) bool {
	s, ok := strings.CutPrefix(s, "<")
	if !ok {
		return false
	}
	if s, ok = strings.CutSuffix(s, ">"); !ok {
		return false
	}
	a, b, _ := strings.Cut(s, ".")
	from, right := number(a)
	count, also := number(b)
	i.From, i.Count = from, count
	return right && also && count > 0
}

func (p *parser) section(s *api.Section) bool {
	rest, ok := p.atom()
	if !ok {
		return true
	}
	for {
		piece, behind, more := strings.Cut(rest, ".")
		n, ok := number(piece)
		if !ok {
			break
		}
		if n < 1 || n > mostNumber || len(s.Path) == api.MaxNest {
			return false
		}
		s.Path = append(s.Path, n)
		if !more {
			return true
		}
		rest = behind
	}
	switch strings.ToUpper(rest) {
	case "HEADER":
		s.Kind = api.PartHeader
	case "TEXT":
		s.Kind = api.PartText
	case "MIME":
		s.Kind = api.PartMime
		return len(s.Path) > 0
	case "HEADER.FIELDS":
		s.Kind = api.PartFields
		return p.fields(s)
	case "HEADER.FIELDS.NOT":
		s.Kind = api.PartNot
		return p.fields(s)
	default:
		return false
	}
	return true
}

func (p *parser) fields(s *api.Section) bool {
	if !p.blank() || !p.sign(api.TokOpen) {
		return false
	}
	return p.row(func() bool {
		name, ok := p.text()
		if !ok || !rightField(name) {
			return false
		}
		if len(s.Fields) == api.MaxItems {
			return p.fail(api.ErrLong)
		}
		s.Fields = append(s.Fields, text.Small(name))
		return true
	})
}

func rightField(s string) bool {
	for i := range len(s) {
		if s[i] <= ' ' || s[i] > '~' {
			return false
		}
	}
	return s != "" && len(s) <= longestField && !strings.ContainsAny(s, `:(){"[]\`)
}
