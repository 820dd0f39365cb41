package address_test

import (
	"slices"
	"strings"
	"testing"

	"cubby/address"
	"cubby/api"
)

func TestParse(t *testing.T) {
	a := func(s ...string) []api.Address {
		var out []api.Address
		for i := 0; i < len(s); i += 3 {
			out = append(out, api.Address{Name: s[i], Box: s[i+1], Host: s[i+2]})
		}
		return out
	}
	rows := []struct {
		s    string
		want []api.Address
	}{
		{"", nil}, {" ,\t, ", nil},
		{"Ann <a@b.c>, d", a("Ann", "a", "b.c", "", "d", "")},
		{"a@b@c", a("", "a@b", "c")}, {"@", a("", "", "")}, {"@x", a("", "", "x")}, {"x@", a("", "x", "")},
		{`"Ann, \"B\" \x" <a@b>`, a(`Ann, "B" x`, "a", "b")},
		{`"a,b`, a("", `"a,b`, "")}, {`"a\`, a("", `"a\`, "")}, {`"a\",b", c`, a("", `"a\",b"`, "", "", "c", "")},
		{`"A" "B" <c@d>`, a(`"A" "B"`, "c", "d")}, {`"A"B <c>`, a(`"A"B`, "c", "")}, {` "" <c>`, a("", "c", "")},
		{"<a,b@c> , e", a("", "a,b", "c", "", "e", "")}, {"< a @ b >", a("", " a ", " b ")}, {"<>", a("", "", "")},
		{"a<b, c", a("", "a<b", "", "", "c", "")}, {"a <b> <c@d>", a("a", "b", "")}, {"a <b <c> d", a("a", "b <c", "")},
		{`x "<" <y@z> tail`, a(`x "<"`, "y", "z")}, {`"<a@b>"`, a("", `"<a`, `b>"`)}, {"a, b > c", a("", "a", "", "", "b > c", "")},
		{`<a"b>, c"`, a("", `a"b`, "", "", `c"`, "")}, {"(c) d@e", a("", "(c) d", "e")},
		{"a<,b", a("", "a<", "", "", "b", "")}, {`"A"<b@c>`, a("A", "b", "c")}, {`"`, a("", `"`, "")}, {`"\`, a("", `"\`, "")},
		{"\tA B\t <x>\t", a("A B", "x", "")},
		{"<a, \">\" , b", a("", "a, \"", "")},
	}
	for _, r := range rows {
		if got := address.Parse(r.s); !slices.Equal(got, r.want) {
			t.Errorf("P14.1: Parse(%q): %q; want %q", r.s, got, r.want)
		}
	}
	if got := address.Parse(strings.Repeat("a,", 19) + "b, c, d"); len(got) != 20 || got[19].Box != "b" {
		t.Errorf("P14.1: the first 20: %d", len(got))
	}
	if got := address.Parse(strings.Repeat(",,", 40) + "b"); len(got) != 1 {
		t.Errorf("P14.1: those that are empty are none: %d", len(got))
	}
}

func TestValue(t *testing.T) {
	long := strings.Repeat("\xff", api.MaxLiteral+5)
	rows := []struct{ s, want string }{
		{"", "NIL"}, {"a", `"a"`}, {`a"\`, `"a\"\\"`}, {"\u00e9", "{2}\r\n\u00e9"}, {"a\r\nb", "{4}\r\na\r\nb"}, {"\xff\x00", "{1}\r\n\xff"}, {" ", `" "`}, {"NIL", `"NIL"`},
		{long, "{16389}\r\n" + long}, {strings.Repeat("a", 20000), `"` + strings.Repeat("a", 20000) + `"`},
	}
	for _, r := range rows {
		if got := address.Value(r.s); got != r.want {
			t.Errorf("P14.1: Value(%.30q): %.30q; want %.30q", r.s, got, r.want)
		}
	}
}

func TestList(t *testing.T) {
	if got := address.List(nil); got != "NIL" {
		t.Errorf("P14.1: List of none: %q", got)
	}
	l := []api.Address{{Name: "Ann", Box: "a", Host: "b.c"}, {Box: "d"}}
	if got := address.List(l); got != `(("Ann" NIL "a" "b.c")(NIL NIL "d" NIL))` {
		t.Errorf("P14.1: List: %q", got)
	}
}

func TestEnvelope(t *testing.T) {
	if got := address.Envelope(nil); got != "(NIL NIL NIL NIL NIL NIL NIL NIL NIL NIL)" {
		t.Errorf("P14.2: of nothing: %q", got)
	}
	l := []api.Field{{Name: "to", Text: "t1, t2"}, {Name: "From", Text: "F <f@g>"}, {Name: "date", Text: "today"}, {Name: "subject", Text: "s (x)"}, {Name: "cc", Text: "c"}, {Name: "bcc", Text: "b"}, {Name: "in-reply-to", Text: "<i>"}, {Name: "message-id", Text: "<m>"}, {Name: "date", Text: "later"}, {Name: "sender", Text: " , "}}
	from := `(("F" NIL "f" "g"))`
	want := `("today" "s (x)" ` + from + " " + from + " " + from + ` ((NIL NIL "t1" NIL)(NIL NIL "t2" NIL)) ((NIL NIL "c" NIL)) ((NIL NIL "b" NIL)) "<i>" "<m>")`
	if got := address.Envelope(l); got != want {
		t.Errorf("P14.2: %q; want %q", got, want)
	}
	l = []api.Field{{Name: "from", Text: "f"}, {Name: "sender", Text: "s"}, {Name: "reply-to", Text: "r"}, {Name: "subject", Text: ""}}
	want = `(NIL NIL ((NIL NIL "f" NIL)) ((NIL NIL "s" NIL)) ((NIL NIL "r" NIL)) NIL NIL NIL NIL NIL)`
	if got := address.Envelope(l); got != want {
		t.Errorf("P14.2: %q; want %q", got, want)
	}
}
