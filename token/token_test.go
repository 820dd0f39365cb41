package token_test

import (
	"math/rand"
	"slices"
	"strings"
	"testing"

	"cubby/api"
	"cubby/token"
)

func atom(s string) api.Token    { return api.Token{Kind: api.TokAtom, S: s} }
func quoted(s string) api.Token  { return api.Token{Kind: api.TokQuoted, S: s} }
func literal(s string) api.Token { return api.Token{Kind: api.TokLiteral, S: s} }

var (
	open  = api.Token{Kind: api.TokOpen}
	shut  = api.Token{Kind: api.TokClose}
	space = api.Token{Kind: api.TokSpace}
	left  = api.Token{Kind: api.TokLeft}
	right = api.Token{Kind: api.TokRight}
)

func TestLexAndPrint(t *testing.T) {
	rows := []struct {
		line string
		want []api.Token
	}{
		{"", nil},
		{"a (b)", []api.Token{atom("a"), space, open, atom("b"), shut}},
		{"{2}\r\nxy", []api.Token{literal("xy")}},
		{"{0}\r\n", []api.Token{literal("")}},
		{"{0}\r\nab{1}\r\n\n", []api.Token{literal(""), atom("ab"), literal("\n")}},
		{"  ", []api.Token{space, space}},
		{`"a\"\\b"""`, []api.Token{quoted(`a"\b`), quoted("")}},
		{"\"\x01\x7f\t {3}\"", []api.Token{quoted("\x01\x7f\t {3}")}},
		{`x[1.2]<0.5>`, []api.Token{atom("x"), left, atom("1.2"), right, atom("<0.5>")}},
		{`!#$%&'*+,-./09:;<=>?@AZ\^_` + "`az|}~", []api.Token{atom(`!#$%&'*+,-./09:;<=>?@AZ\^_` + "`az|}~")}},
		{"{3}\r\n\xff\r\n", []api.Token{literal("\xff\r\n")}},
		{"a\"b\"c", []api.Token{atom("a"), quoted("b"), atom("c")}},
	}
	for _, r := range rows {
		got, e := token.Lex([]byte(r.line))
		if e != api.OK || !slices.Equal(got, r.want) {
			t.Errorf("P6.1: Lex(%q): %v, %d", r.line, got, e)
		}
		if b, e := token.Print(r.want); e != api.OK || string(b) != r.line {
			t.Errorf("P6.2: Print(%v): %q, %d", r.want, b, e)
		}
	}
}

func TestLexFaults(t *testing.T) {
	rows := []struct {
		line string
		want api.Errno
	}{
		{"a\x00", api.ErrForm}, {"\x7f", api.ErrForm}, {"\x80", api.ErrForm}, {"a\tb", api.ErrForm}, {"a\r\n", api.ErrForm}, {"\n", api.ErrForm},
		{`"a`, api.ErrShort}, {`"`, api.ErrShort}, {`"a\`, api.ErrShort}, {`"a\n"`, api.ErrForm}, {"\"a\r", api.ErrForm}, {"\"\n", api.ErrForm}, {"\"\x00", api.ErrForm}, {"\"\x80\"", api.ErrForm},
		{"{", api.ErrShort}, {"{1", api.ErrShort}, {"{1}", api.ErrShort}, {"{1}\r", api.ErrShort}, {"{1}\r\n", api.ErrShort}, {"{3}\r\nab", api.ErrShort},
		{"{}", api.ErrForm}, {"{a", api.ErrForm}, {"{01", api.ErrForm}, {"{00", api.ErrForm}, {"{1 ", api.ErrForm}, {"{1+}\r\na", api.ErrForm}, {"{1}a", api.ErrForm}, {"{1}\n", api.ErrForm}, {"{1}\r\r", api.ErrForm}, {"{-1}", api.ErrForm},
		{"{2}\r\na\x00", api.ErrForm}, {"{3}\r\na\x00", api.ErrForm},
		{"{16385}\r\n", api.ErrLong}, {"{99999999999999999999999}\r\n", api.ErrLong}, {"{99999", api.ErrShort}, {"{99999}x", api.ErrForm}, {"{16385}\r\n\x00", api.ErrLong},
		{"{16384}\r\n", api.ErrShort},
		{"a \x80 {99999}\r\n", api.ErrForm}, {"a {99999}\r\n \x80", api.ErrLong},
	}
	for _, r := range rows {
		if got, e := token.Lex([]byte(r.line)); e != r.want || got != nil {
			t.Errorf("P6.1: Lex(%q): %v, %d; want %d", r.line, got, e, r.want)
		}
	}
	long := strings.Repeat("x", api.MaxLiteral)
	if got, e := token.Lex([]byte("{16384}\r\n" + long)); e != api.OK || len(got) != 1 || got[0].S != long {
		t.Error("P6.1: the longest literal")
	}
}

func TestPrintRefuses(t *testing.T) {
	rows := [][]api.Token{
		{{}}, {{Kind: 9}}, {{Kind: -1}}, {{Kind: api.TokOpen, S: "("}}, {{Kind: api.TokSpace, S: " "}},
		{atom("")}, {atom("a b")}, {atom("a(")}, {atom("a\x80")}, {atom("a\"")},
		{quoted("a\r")}, {quoted("\n")}, {quoted("\x00")}, {quoted("\x80")},
		{literal("a\x00")}, {literal("\x00")}, {literal(strings.Repeat("x", api.MaxLiteral+1))},
		{atom("a"), atom("b")}, {space, atom("a"), atom("b"), space},
	}
	for _, r := range rows {
		if b, e := token.Print(r); e != api.ErrForm || b != nil {
			t.Errorf("P6.2: Print(%v): %q, %d", r, b, e)
		}
	}
}

func TestAtomAndQuote(t *testing.T) {
	if _, e := token.Print([]api.Token{literal(strings.Repeat("x", api.MaxLiteral))}); e != api.OK {
		t.Errorf("P6.2: the longest literal: %d", e)
	}
	for _, s := range []string{"a", "\\Seen", "1:*", "a}b", "+FLAGS", "~"} {
		if !token.Atom(s) {
			t.Errorf("P6.1: Atom(%q)", s)
		}
	}
	for _, s := range []string{"", " ", "a b", "(", ")", "{", "\"", "[", "]", "\x7f", "\x80", "\n", "a\x00"} {
		if token.Atom(s) {
			t.Errorf("P6.1: Atom(%q): it is none", s)
		}
	}
	for _, s := range []string{"", "a", "a b", "\"\\", "\x01\x7f", strings.Repeat("x", 20000)} {
		if got := token.Quote(s); got != quoted(s) {
			t.Errorf("P6.1: Quote(%q)", s)
		}
	}
	for _, s := range []string{"\r", "a\nb", "\x80", "\u00e9", "a\x00"} {
		if got := token.Quote(s); got != literal(s) {
			t.Errorf("P6.1: Quote(%q)", s)
		}
	}
}

func TestWhatIsTakenIsPrintedAsItself(t *testing.T) {
	r := rand.New(rand.NewSource(3))
	pieces := []string{"a", "Z9", " ", "(", ")", "[", "]", "\"", "\\", "{", "}", "1", "2", "0", "\r\n", "{1}\r\n", "\x00", "\xff", "\\\""}
	taken := 0
	for range 30000 {
		var b strings.Builder
		for range r.Intn(8) {
			b.WriteString(pieces[r.Intn(len(pieces))])
		}
		l, e := token.Lex([]byte(b.String()))
		if e != api.OK {
			continue
		}
		taken++
		if p, e := token.Print(l); e != api.OK || string(p) != b.String() {
			t.Fatalf("a line that is taken is printed as itself: %q: %q, %d", b.String(), p, e)
		}
	}
	if taken < 1000 {
		t.Errorf("only %d lines were taken", taken)
	}
}
