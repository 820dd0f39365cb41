package mime_test

import (
	"math/rand"
	"reflect"
	"strconv"
	"strings"
	"testing"

	"cubby/api"
	"cubby/mime"
)

func TestType(t *testing.T) {
	rows := []struct{ text, kind, sub, bound string }{
		{"", "text", "plain", ""},
		{"Text/HTML", "text", "html", ""},
		{" multipart / Mixed ; Boundary = \"a b\" ", "multipart", "mixed", "a b"},
		{"multipart/mixed;boundary=abc;boundary=d", "multipart", "mixed", "abc"},
		{"text", "text", "plain", ""}, {"text/", "text", "plain", ""}, {"/plain", "text", "plain", ""}, {"a b/c", "text", "plain", ""}, {"a/b c", "text", "plain", ""}, {"a/b/c", "a", "b/c", ""}, {"a(/b", "text", "plain", ""}, {"a/b=", "text", "plain", ""}, {"\u00e9/x", "text", "plain", ""}, {"a;x/y", "text", "plain", ""},
		{"image; boundary=x", "text", "plain", "x"},
		{"a/b; x; boundary=\"q;\\\"r\"; c=d", "a", "b", "q;\"r"},
		{"a/b; c=\"; boundary=no\"; BOUNDARY=yes", "a", "b", "yes"},
		{"a/b; boundary", "a", "b", ""}, {"a/b; boundary=", "a", "b", ""}, {"a/b; boundary=\"\"", "a", "b", ""},
		{"a/b; boundary; boundary=x", "a", "b", "x"},
		{"a/b; boundary=; boundary=x", "a", "b", ""},
		{"a/b; boundary=\"x", "a", "b", "x"},
		{"a/b; boundary=x=y", "a", "b", "x=y"},
		{"a/b; boundary=\"x\" y", "a", "b", "\"x\" y"},
		{"a/b; boundary=" + strings.Repeat("x", 70), "a", "b", strings.Repeat("x", 70)},
		{"a/b; boundary=" + strings.Repeat("x", 71), "a", "b", ""},
		{"a/b; boundary=\u00e9", "a", "b", ""},
		{"multipart/mixed\t;\tboundary\t=\tx\t", "multipart", "mixed", "x"},
	}
	for _, r := range rows {
		if k, s, b := mime.Type(r.text); k != r.kind || s != r.sub || b != r.bound {
			t.Errorf("P15.1: Type(%q): %q %q %q", r.text, k, s, b)
		}
	}
}

// spell tells a part's type, what its body is, and its parts.
func spell(b string, p api.Part) string {
	out := p.Type + "/" + p.Sub + "<" + b[p.From:p.To] + ">"
	if len(p.Parts) > 0 {
		out += "("
		for _, q := range p.Parts {
			out += spell(b, q)
		}
		out += ")"
	}
	return out
}

func TestParse(t *testing.T) {
	if got := mime.Parse([]byte("\r\nx")); !reflect.DeepEqual(got, api.Part{Type: "text", Sub: "plain", From: 2, To: 3}) {
		t.Errorf("P15.1: %+v", got)
	}
	if got := mime.Parse(nil); !reflect.DeepEqual(got, api.Part{Type: "text", Sub: "plain"}) {
		t.Errorf("P15.1: of nothing: %+v", got)
	}
	if got := mime.Parse([]byte("Content-TYPE: image/png\n\na\nb\r\nc")); !reflect.DeepEqual(got, api.Part{Type: "image", Sub: "png", From: 25, To: 31, Lines: 2}) {
		t.Errorf("P15.1: %+v", got)
	}
	head := "Content-Type: multipart/mixed; boundary=b\r\n\r\n"
	rows := []struct{ body, want string }{
		{"", ""}, {"no line", ""}, {"--bx\r\nq", ""}, {" --b\r\nq", ""}, {"--B\r\nq", ""}, {"x--b\r\n\r\nq", ""},
		{"--b\r\n\r\nx\r\n--b--\r\n", "(text/plain<x>)"},
		{"pre\r\n--b\r\n\r\nx\r\n--b\r\n\r\ny\n--b--\r\npost\r\n--b\r\n\r\nz", "(text/plain<x>text/plain<y>)"},
		{"--b \t\n\nx\n\n--b-- whatever\n", "(text/plain<x\n>)"},
		{"--b\n\nx\n--b--x\n\ny", "(text/plain<x>)"},
		{"--b\n\nx\n--bb\ny", "(text/plain<x\n--bb\ny>)"},
		{"--b\n\nx\r\n", "(text/plain<x\r\n>)"},
		{"--b", "(text/plain<>)"}, {"--b\n--b\r\n", "(text/plain<>text/plain<>)"}, {"--b\n\n--b--", "(text/plain<>)"}, {"--b\n\r\n--b--", "(text/plain<>)"}, {"--b\nA: b\r\n--b--", "(text/plain<>)"},
		{"--b\nContent-Type: multipart/alternative; boundary=c\n\n--c\n\n1\n--c\n\n2\n--c--\n\n--b\n\n3\n--b--", "(multipart/alternative<--c\n\n1\n--c\n\n2\n--c--\n>(text/plain<1>text/plain<2>)text/plain<3>)"},
		{"--b\nContent-Type: multipart/alternative; boundary=c\n\n--c\n\n1\n--b\n\n3", "(multipart/alternative<--c\n\n1>(text/plain<1>)text/plain<3>)"},
		{"--b\nContent-Type: message/rfc822\n\nSubject: s\n\nq\n--b--", "(message/rfc822<Subject: s\n\nq>(text/plain<q>))"},
		{strings.Repeat("--b\n\nx\n", 35), "(" + strings.Repeat("text/plain<x>", 30) + ")"},
	}
	for _, r := range rows {
		b := head + r.body
		if got := spell(b, mime.Parse([]byte(b))); got != "multipart/mixed<"+r.body+">"+r.want {
			t.Errorf("P15.1: %q: %q; want %q", r.body, got, r.want)
		}
	}
	b := "Content-Type: text/plain; boundary=b\n\n--b\n\nx\n--b--"
	if p := mime.Parse([]byte(b)); len(p.Parts) != 0 {
		t.Error("P15.1: only of multipart the body is cut")
	}
	for _, kind := range []string{"message/partial", "text/rfc822", "multipart/mixed", "multipart/rfc822"} {
		if p := mime.Parse([]byte("Content-Type: " + kind + "\n\n\n\nx")); len(p.Parts) != 0 {
			t.Errorf("P15.1: %s has no parts", kind)
		}
	}
	b = head + "--b\r\nA: 1\r\n\r\nx\r\ny\r\n--b--"
	p := mime.Parse([]byte(b))
	want := api.Part{Type: "text", Sub: "plain", Head: len(head) + 5, From: len(head) + 13, To: len(head) + 17, Lines: 1}
	if p.Lines != 5 || len(p.Parts) != 1 || !reflect.DeepEqual(p.Parts[0], want) {
		t.Errorf("P15.1: places: %+v; want %+v", p, want)
	}
}

func TestDepth(t *testing.T) {
	b := "\n\nx"
	for n := 1; n < 12; n++ {
		if got := mime.Depth(mime.Parse([]byte(b))); got != min(n, api.MaxNest+1) {
			t.Errorf("P15.1: %d deep: %d", n, got)
		}
		b = "Content-Type: message/rfc822\n\n" + b
	}
	inner := "\nx"
	for n := 1; n < 10; n++ {
		bound := string(rune('a' + n))
		if got := mime.Depth(mime.Parse([]byte(inner))); got != min(n, api.MaxNest+1) {
			t.Errorf("P15.1: multiparts, %d deep: %d", n, got)
		}
		inner = "Content-Type: multipart/x; boundary=" + bound + "\n\n--" + bound + "\n" + inner + "\n--" + bound + "--"
	}
	p := api.Part{Parts: []api.Part{{}, {Parts: []api.Part{{}}}, {}}}
	if got := mime.Depth(p); got != 3 {
		t.Errorf("P15.1: Depth: %d", got)
	}
}

func TestStructure(t *testing.T) {
	whole := func(s string) string { return mime.Structure([]byte(s), mime.Parse([]byte(s))) }
	rows := []struct{ b, want string }{
		{"\r\nx", `("text" "plain" NIL NIL NIL "7bit" 1 0)`},
		{"", `("text" "plain" NIL NIL NIL "7bit" 0 0)`},
		{"Content-Type: IMAGE/Png\nContent-ID: <i>\nContent-Description: d\nContent-Transfer-Encoding: BASE64\n\na\nb\n", `("image" "png" NIL "<i>" "d" "BASE64" 4)`},
		{"Content-Type: text/x\nContent-Transfer-Encoding:\n\na\nb\n", `("text" "x" NIL NIL NIL "7bit" 4 2)`},
		{"Content-Type: multipart/Mixed; boundary=b\n\n--b\n\nx\n--b\nContent-Type: a/b\n\n--b--", `(("text" "plain" NIL NIL NIL "7bit" 1 0)("a" "b" NIL NIL NIL "7bit" 0) "mixed")`},
		{"Content-Type: multipart/mixed; boundary=b\n\nx", `("multipart" "mixed" NIL NIL NIL "7bit" 1)`},
		{"Content-Type: message/rfc822\n\nSubject: s\nFrom: f\n\nq\n", `("message" "rfc822" NIL NIL NIL "7bit" 22 (NIL "s" ((NIL NIL "f" NIL)) ((NIL NIL "f" NIL)) ((NIL NIL "f" NIL)) NIL NIL NIL NIL NIL) ("text" "plain" NIL NIL NIL "7bit" 2 1) 4)`},
		{"Content-Type: message/partial\n\nq\n", `("message" "partial" NIL NIL NIL "7bit" 2)`},
	}
	for _, r := range rows {
		if got := whole(r.b); got != r.want {
			t.Errorf("P15.2: %q: %s; want %s", r.b, got, r.want)
		}
	}
	text, in := `("text" "plain" NIL NIL NIL "7bit" 1 0)`, "\nx"
	for n := 1; n <= api.MaxNest; n++ {
		text = `("message" "rfc822" NIL NIL NIL "7bit" ` + strconv.Itoa(len(in)) + " (NIL NIL NIL NIL NIL NIL NIL NIL NIL NIL) " + text + " " + strconv.Itoa(strings.Count(in, "\n")) + ")"
		in = "Content-Type: message/rfc822\n\n" + in
		if got := whole(in); got != text {
			t.Errorf("P15.2: %d messages in one another: %s; want %s", n, got, text)
		}
	}
	deep := "Content-Type: message/rfc822\n\n" + in
	if got := whole(deep); strings.Count(got, `"rfc822"`) != api.MaxNest+1 || strings.Contains(got, `"text"`) {
		t.Errorf("P15.2: not deeper than may be: %s", got)
	}
	b := []byte("Content-Type: multipart/mixed; boundary=b\n\n--b\nContent-ID: \"q\n\nx\ny\n--b--")
	if got := mime.Structure(b, mime.Parse(b).Parts[0]); got != `("text" "plain" NIL "\"q" NIL "7bit" 3 1)` {
		t.Errorf("P15.2: of a part: %s", got)
	}
	for _, p := range []api.Part{{}, {Head: -1, From: 99, To: 5}, {Type: "message", Sub: "rfc822", Parts: []api.Part{{From: -7}}}, {Type: "multipart", Parts: []api.Part{{To: 1 << 60}}}} {
		mime.Structure(b, p)
	}
}

func inside(t *testing.T, b []byte, p api.Part, from, to int) {
	if p.Head < from || p.From < p.Head || p.To < p.From || p.To > to {
		t.Fatalf("a part lies in that which it is in: %+v in %d to %d of %q", p, from, to, b)
	}
	at := p.From
	for _, q := range p.Parts {
		inside(t, b, q, at, p.To)
		at = q.To
	}
}

func TestPartsDoNotMeet(t *testing.T) {
	r := rand.New(rand.NewSource(15))
	pieces := []string{"Content-Type: multipart/m; boundary=b\n", "Content-Type: multipart/m; boundary=c\r\n", "Content-Type: message/rfc822\n", "\n", "\r\n", "--b\n", "--b--\n", "--c\r\n", "--c--", "x", "--", "y\n"}
	for range 3000 {
		var s strings.Builder
		for range r.Intn(25) {
			s.WriteString(pieces[r.Intn(len(pieces))])
		}
		b := []byte(s.String())
		p := mime.Parse(b)
		inside(t, b, p, 0, len(b))
		if d := mime.Depth(p); d < 1 || d > api.MaxNest+1 {
			t.Fatalf("P15.1: Depth %d", d)
		}
	}
}
