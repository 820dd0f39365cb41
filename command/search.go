package command

import (
	"cubby/api"
	"cubby/flags"
	"strings"
)

func (p *parser) search(c *api.Command) bool {
	c.Kind = api.CmdSearch
	count := 0
	var key func(depth int) (api.Key, bool)
	key = func(depth int) (api.Key, bool) {
		count++
		if count > api.MaxKeys || depth > api.MaxNest {
			return api.Key{}, p.fail(api.ErrLong)
		}
		within := func(l *[]api.Key) bool {
			k, ok := key(depth + 1)
			*l = append(*l, k)
			return ok
		}
		if p.sign(api.TokOpen) {
			k := api.Key{Kind: api.KeyAnd}
			ok := p.row(func() bool { return within(&k.Keys) })
			return k, ok
		}
		return p.key(within)
	}
	for p.blank() {
		k, ok := key(1)
		if !ok {
			return false
		}
		c.Keys = append(c.Keys, k)
	}
	return len(c.Keys) > 0
}

// key reads one that stands between no brackets; within reads one that it has within it.
func (p *parser) key(within func(*[]api.Key) bool) (api.Key, bool) {
	s, ok := p.atom()
	if !ok {
		return api.Key{}, false
	}
	word := strings.ToUpper(s)
	k := api.Key{Kind: keyKind(word)}
	if k.Kind != 0 {
		ok = p.asked(&k, within)
		return k, ok
	}
	if k, ok := system(word); ok {
		return k, true
	}
	k.Kind = api.KeySet
	ok = p.set(s, &k.Set)
	return k, ok
}

// asked reads what stands behind a key's name.
func (p *parser) asked(k *api.Key, within func(*[]api.Key) bool) bool {
	switch k.Kind {
	case api.KeyFlag, api.KeyNoFlag:
		return p.keyword(k)
	case api.KeyUid:
		return p.blankSet(&k.Set)
	case api.KeyFrom, api.KeyTo, api.KeySubject, api.KeyBody, api.KeyText:
		return p.blankText(&k.S)
	case api.KeyHeader:
		return p.blankText(&k.S) && p.blankText(&k.T)
	case api.KeyLarger, api.KeySmaller:
		return p.size(k)
	case api.KeyNot:
		return p.blank() && within(&k.Keys)
	case api.KeyOr:
		return p.blank() && within(&k.Keys) && p.blank() && within(&k.Keys)
	}
	return true
}

func keyKind(word string) int {
	switch word {
	case "ALL":
		return api.KeyAll
	case "KEYWORD":
		return api.KeyFlag
	case "UNKEYWORD":
		return api.KeyNoFlag
	case "UID":
		return api.KeyUid
	case "FROM":
		return api.KeyFrom
	case "TO":
		return api.KeyTo
	case "SUBJECT":
		return api.KeySubject
	case "BODY":
		return api.KeyBody
	case "TEXT":
		return api.KeyText
	case "HEADER":
		return api.KeyHeader
	case "LARGER":
		return api.KeyLarger
	case "SMALLER":
		return api.KeySmaller
	case "NOT":
		return api.KeyNot
	case "OR":
		return api.KeyOr
	}
	return 0
}

// system is a key that asks for a system flag by its name.
func system(word string) (api.Key, bool) {
	if f, e := flags.Fold(`\` + word); e == api.OK {
		return api.Key{Kind: api.KeyFlag, S: f}, true
	}
	if rest, ok := strings.CutPrefix(word, "UN"); ok {
		if f, e := flags.Fold(`\` + rest); e == api.OK {
			return api.Key{Kind: api.KeyNoFlag, S: f}, true
		}
	}
	return api.Key{}, false
}

func (p *parser) keyword(k *api.Key) bool {
	if !p.blank() {
		return false
	}
	s, ok := p.atom()
	f, e := flags.Fold(s)
	k.S = f
	return ok && e == api.OK && f[0] != '\\'
}

func (p *parser) size(k *api.Key) bool {
	if !p.blank() {
		return false
	}
	s, ok := p.atom()
	n, right := number(s)
	k.N = n
	return ok && right
}
