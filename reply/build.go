package reply

import (
	"cubby/api"
	"cubby/token"
	"strconv"
	"strings"
)

// build puts a reply together, right or not.
func build(r api.Reply) ([]byte, bool) {
	var s string
	ok := true
	switch r.Kind {
	case api.ReplyOk, api.ReplyNo, api.ReplyBad, api.ReplyBye:
		s = r.Tag + " " + verdict(r.Kind) + " "
		if r.Code != "" {
			s += "[" + r.Code + "] "
		}
		s += r.Text
	case api.ReplyMore:
		s = "+ " + r.Text
	case api.ReplyList:
		s, ok = quoted(r.Text)
		s = "* LIST (" + strings.Join(r.Flags, " ") + `) "/" ` + s
	case api.ReplyExist:
		s = "* " + number(r.N) + " EXISTS"
	case api.ReplyGone:
		s = "* " + number(r.N) + " EXPUNGE"
	case api.ReplyHits:
		s = "* SEARCH"
		for _, n := range r.Nums {
			s += " " + number(n)
		}
	case api.ReplyFlags:
		s = "* FLAGS (" + strings.Join(r.Flags, " ") + ")"
	case api.ReplyCaps:
		s = strings.Join(append([]string{"* CAPABILITY"}, r.Flags...), " ")
	case api.ReplyState:
		s, ok = quoted(r.Text)
		list, also := pairs(r.Pairs)
		s, ok = "* STATUS "+s+" "+list, ok && also
	case api.ReplyFetch:
		s, ok = pairs(r.Pairs)
		s = "* " + number(r.N) + " FETCH " + s
	default:
		ok = false
	}
	return []byte(s + "\r\n"), ok
}

func number(n uint32) string { return strconv.FormatUint(uint64(n), 10) }

func verdict(kind int) string {
	switch kind {
	case api.ReplyOk:
		return "OK"
	case api.ReplyNo:
		return "NO"
	case api.ReplyBad:
		return "BAD"
	}
	return "BYE"
}

func quoted(s string) (string, bool) {
	b, e := token.Print([]api.Token{token.Quote(s)})
	return string(b), e == api.OK
}

func pairs(l []api.Pair) (string, bool) {
	var out strings.Builder
	out.WriteByte('(')
	for i, p := range l {
		if i > 0 {
			out.WriteByte(' ')
		}
		value, ok := p.Value, true
		if p.Lit {
			value, ok = quoted(value)
		}
		if !ok {
			return "", false
		}
		out.WriteString(p.Name)
		out.WriteByte(' ')
		out.WriteString(value)
	}
	out.WriteByte(')')
	return out.String(), true
}
