package command

import (
	"cubby/api"
	"cubby/sets"
	"cubby/token"
	"cubby/utf7"
	"strconv"
	"strings"
)

// printer puts tokens together; what is no command at all it refuses, the rest is Parse's to find.
type printer struct {
	out     []api.Token
	refused bool
}

func (p *printer) sign(kind int) { p.out = append(p.out, api.Token{Kind: kind}) }

func (p *printer) atom(s string) { p.out = append(p.out, api.Token{Kind: api.TokAtom, S: s}) }

func (p *printer) blankAtom(s string) {
	p.sign(api.TokSpace)
	p.atom(s)
}

func (p *printer) text(s string) { p.out = append(p.out, token.Quote(s)) }

func (p *printer) blankText(s string) {
	p.sign(api.TokSpace)
	p.text(s)
}

func (p *printer) blankMailbox(name string) {
	s, e := utf7.Encode(name)
	p.refused = p.refused || e != api.OK
	p.blankText(s)
}

func (p *printer) set(l []api.Range) {
	s, e := sets.Print(l)
	p.refused = p.refused || e != api.OK
	p.atom(s)
}

func (p *printer) blankSet(l []api.Range) {
	p.sign(api.TokSpace)
	p.set(l)
}

// row puts n things between brackets, with one blank between.
func (p *printer) row(n int, one func(int)) {
	p.sign(api.TokOpen)
	for i := range n {
		if i > 0 {
			p.sign(api.TokSpace)
		}
		one(i)
	}
	p.sign(api.TokClose)
}

func (p *printer) blankFlags(l []string) {
	p.sign(api.TokSpace)
	p.row(len(l), func(i int) { p.atom(l[i]) })
}

func name(kind int) string {
	names := [...]string{
		api.CmdCapability: "CAPABILITY", api.CmdNoop: "NOOP", api.CmdLogout: "LOGOUT", api.CmdLogin: "LOGIN",
		api.CmdSelect: "SELECT", api.CmdExamine: "EXAMINE", api.CmdCreate: "CREATE", api.CmdDelete: "DELETE",
		api.CmdRename: "RENAME", api.CmdList: "LIST", api.CmdStatus: "STATUS", api.CmdAppend: "APPEND",
		api.CmdCheck: "CHECK", api.CmdClose: "CLOSE", api.CmdExpunge: "EXPUNGE", api.CmdSearch: "SEARCH",
		api.CmdFetch: "FETCH", api.CmdStore: "STORE", api.CmdCopy: "COPY",
	}
	if kind < 0 || kind >= len(names) {
		return ""
	}
	return names[kind]
}

func (p *printer) command(c api.Command) {
	p.atom(c.Tag)
	if c.Uid {
		p.blankAtom("UID")
	}
	p.blankAtom(name(c.Kind))
	switch c.Kind {
	case api.CmdLogin:
		p.blankText(c.Box)
		p.blankText(c.To)
	case api.CmdSelect, api.CmdExamine, api.CmdCreate, api.CmdDelete:
		p.blankMailbox(c.Box)
	case api.CmdRename, api.CmdList:
		p.blankMailbox(c.Box)
		p.blankMailbox(c.To)
	case api.CmdStatus:
		p.blankMailbox(c.Box)
		p.blankItems(c.Items)
	case api.CmdAppend:
		p.put(c)
	case api.CmdExpunge:
		if c.Uid {
			p.blankSet(c.Set)
		}
	case api.CmdSearch:
		p.keys(c.Keys)
	case api.CmdFetch:
		p.blankSet(c.Set)
		p.blankItems(c.Items)
	case api.CmdStore:
		p.store(c)
	case api.CmdCopy:
		p.blankSet(c.Set)
		p.blankMailbox(c.To)
	}
}

func (p *printer) put(c api.Command) {
	p.blankMailbox(c.Box)
	if len(c.Flags) > 0 {
		p.blankFlags(c.Flags)
	}
	if c.Date != "" {
		p.blankText(c.Date)
	}
	p.sign(api.TokSpace)
	p.out = append(p.out, api.Token{Kind: api.TokLiteral, S: string(c.Data)})
}

func (p *printer) store(c api.Command) {
	p.blankSet(c.Set)
	what := "FLAGS"
	switch c.Op {
	case api.AddFlags:
		what = "+FLAGS"
	case api.RemoveFlags:
		what = "-FLAGS"
	}
	if c.Silent {
		what += ".SILENT"
	}
	p.blankAtom(what)
	p.blankFlags(c.Flags)
}

func (p *printer) blankItems(l []api.Item) {
	p.sign(api.TokSpace)
	p.row(len(l), func(i int) { p.item(l[i]) })
}

func itemName(kind int) string {
	names := [...]string{
		api.ItemUid: "UID", api.ItemFlags: "FLAGS", api.ItemSize: "RFC822.SIZE", api.ItemDate: "INTERNALDATE",
		api.ItemEnvelope: "ENVELOPE", api.ItemStructure: "BODYSTRUCTURE", api.ItemBody: "BODY",
		api.ItemMessages: "MESSAGES", api.ItemUidNext: "UIDNEXT", api.ItemValidity: "UIDVALIDITY", api.ItemUnseen: "UNSEEN",
	}
	if kind < 0 || kind >= len(names) {
		return ""
	}
	return names[kind]
}

func (p *printer) item(i api.Item) {
	word := itemName(i.Kind)
	if i.Peek {
		word += ".PEEK"
	}
	p.atom(word)
	if i.Kind != api.ItemBody {
		return
	}
	p.section(i.Section)
	if i.From != 0 || i.Count != 0 {
		p.atom("<" + strconv.Itoa(i.From) + "." + strconv.Itoa(i.Count) + ">")
	}
}

// told is an item as a reply tells it.
func (p *printer) told(i api.Item) {
	p.atom(itemName(i.Kind))
	if i.Kind != api.ItemBody {
		return
	}
	p.section(i.Section)
	if i.Count != 0 {
		p.atom("<" + strconv.Itoa(i.From) + ">")
	}
}

func (p *printer) section(s api.Section) {
	p.sign(api.TokLeft)
	var pieces []string
	for _, n := range s.Path {
		pieces = append(pieces, strconv.Itoa(n))
	}
	switch s.Kind {
	case api.PartHeader:
		pieces = append(pieces, "HEADER")
	case api.PartText:
		pieces = append(pieces, "TEXT")
	case api.PartMime:
		pieces = append(pieces, "MIME")
	case api.PartFields:
		pieces = append(pieces, "HEADER.FIELDS")
	case api.PartNot:
		pieces = append(pieces, "HEADER.FIELDS.NOT")
	}
	if len(pieces) > 0 {
		p.atom(strings.Join(pieces, "."))
	}
	if s.Kind == api.PartFields || s.Kind == api.PartNot {
		p.sign(api.TokSpace)
		p.row(len(s.Fields), func(i int) { p.text(s.Fields[i]) })
	}
	p.sign(api.TokRight)
}

// keys prints no more of them, and none deeper, than may be: there may be no end of the others.
func (p *printer) keys(l []api.Key) {
	count := 0
	var key func(k api.Key, depth int)
	key = func(k api.Key, depth int) {
		count++
		if count > api.MaxKeys || depth > api.MaxNest {
			p.refused = true
			return
		}
		p.key(k, func(i int) { key(k.Keys[i], depth+1) })
	}
	for _, k := range l {
		p.sign(api.TokSpace)
		key(k, 1)
		if p.refused {
			return
		}
	}
}

func keyName(kind int) string {
	names := [...]string{
		api.KeyAll: "ALL", api.KeyUid: "UID", api.KeyFrom: "FROM", api.KeyTo: "TO", api.KeySubject: "SUBJECT",
		api.KeyBody: "BODY", api.KeyText: "TEXT", api.KeyHeader: "HEADER", api.KeyLarger: "LARGER",
		api.KeySmaller: "SMALLER", api.KeyNot: "NOT", api.KeyOr: "OR",
	}
	if kind < 0 || kind >= len(names) {
		return ""
	}
	return names[kind]
}

func (p *printer) key(k api.Key, within func(int)) {
	switch k.Kind {
	case api.KeyFlag:
		p.flag(k.S, "")
	case api.KeyNoFlag:
		p.flag(k.S, "UN")
	case api.KeySet:
		p.set(k.Set)
	case api.KeyAnd:
		p.row(min(len(k.Keys), api.MaxKeys), within)
	default:
		p.atom(keyName(k.Kind))
	}
	switch k.Kind {
	case api.KeyUid:
		p.blankSet(k.Set)
	case api.KeyFrom, api.KeyTo, api.KeySubject, api.KeyBody, api.KeyText:
		p.blankText(k.S)
	case api.KeyHeader:
		p.blankText(k.S)
		p.blankText(k.T)
	case api.KeyLarger, api.KeySmaller:
		p.blankAtom(strconv.Itoa(k.N))
	case api.KeyNot, api.KeyOr:
		for i := range min(len(k.Keys), 2) {
			p.sign(api.TokSpace)
			within(i)
		}
	}
}

func (p *printer) flag(f, un string) {
	if word, ok := strings.CutPrefix(f, `\`); ok {
		p.atom(un + strings.ToUpper(word))
		return
	}
	p.atom(un + "KEYWORD")
	p.blankAtom(f)
}
