package header_test

import (
	"bytes"
	"slices"
	"testing"

	"cubby/api"
	"cubby/header"
)

func TestSplit(t *testing.T) {
	rows := []struct {
		b    string
		want int
	}{
		{"", 0}, {"\n", 1}, {"\r\n", 2}, {"\r\nx", 2}, {"A: b\r\n  c\r\n\r\nx", 13}, {"A: b\n\nx\n\n", 6}, {"A: b", 4}, {"A: b\r\n", 6}, {"A\r", 2}, {"\r", 1}, {"\r\r\n\nx", 4}, {" \n\nx", 3}, {"a\nb\r\n\r\r\n", 8},
	}
	for _, r := range rows {
		if got := header.Split([]byte(r.b)); got != r.want {
			t.Errorf("P13.1: Split(%q): %d; want %d", r.b, got, r.want)
		}
	}
}

func TestFields(t *testing.T) {
	f := func(s ...string) []api.Field {
		var out []api.Field
		for i := 0; i < len(s); i += 2 {
			out = append(out, api.Field{Name: s[i], Text: s[i+1]})
		}
		return out
	}
	rows := []struct {
		b    string
		want []api.Field
	}{
		{"", nil},
		{"A: b\r\n c\r\n\r\nx", f("a", "b c")},
		{"A: b\r\n  c\r\n\r\nD: e\r\n", f("a", "b  c")},
		{"Sub-JECT:\t x \t\nTo:y:z\n", f("sub-ject", "x", "to", "y:z")},
		{"A:b\n\tc \r\n d\n", f("a", "b\tc  d")},
		{"A:\nB: \t\n", f("a", "", "b", "")},
		{"A: 1\nA: 2\na: 3", f("a", "1", "a", "2", "a", "3")},
		{" a: b\nC: d\n", f("c", "d")},
		{"A: b\nno field\n goes on\nC: d\n", f("a", "b", "c", "d")},
		{": x\n y\nA b: c\n z\n\u00e9: f\nG: h\n", f("g", "h")},
		{"A : b\nC: d\re\r\r\n f\n", f("c", "d\re\r f")},
		{"A: b\n \n c\n\nD: e", f("a", "b  c")},
		{"!~: x", f("!~", "x")},
		{"A: \xff\x00\r", f("a", "\xff\x00\r")},
	}
	for _, r := range rows {
		if got := header.Fields([]byte(r.b)); !slices.Equal(got, r.want) {
			t.Errorf("P13.1: Fields(%q): %q; want %q", r.b, got, r.want)
		}
	}
}

func TestGet(t *testing.T) {
	l := []api.Field{{Name: "a", Text: "1"}, {Name: "B", Text: "2"}, {Name: "b", Text: "3"}, {Name: "", Text: "4"}}
	for name, want := range map[string]string{"a": "1", "A": "1", "b": "2", "B": "2", "": "4"} {
		if s, ok := header.Get(l, name); !ok || s != want {
			t.Errorf("P13.2: Get(%q): %q, %v", name, s, ok)
		}
	}
	if s, ok := header.Get(l, "c"); ok || s != "" {
		t.Errorf("P13.2: Get: %q", s)
	}
}

func TestOnly(t *testing.T) {
	b := "From: a\r\n b\r\nTO: c\nnone\n x\nSubject: d\r\nto: e\n\r\nTo: body\r\n"
	rows := []struct {
		names []string
		not   bool
		want  string
	}{
		{nil, false, "\r\n"},
		{nil, true, "From: a\r\n b\r\nTO: c\nSubject: d\r\nto: e\n\r\n"},
		{[]string{"to", "x"}, false, "TO: c\nto: e\n\r\n"},
		{[]string{"to", "x"}, true, "From: a\r\n b\r\nSubject: d\r\n\r\n"},
		{[]string{"SUBJECT", "from"}, false, "From: a\r\n b\r\nSubject: d\r\n\r\n"},
		{[]string{"from", "To", "subject"}, false, "From: a\r\n b\r\nTO: c\nSubject: d\r\nto: e\n\r\n"},
		{[]string{"from", "To", "subject"}, true, "\r\n"},
	}
	in := []byte(b)
	for _, r := range rows {
		if got := header.Only(in, r.names, r.not); string(got) != r.want {
			t.Errorf("P13.2: Only(%q, %v): %q; want %q", r.names, r.not, got, r.want)
		}
	}
	if got := header.Only([]byte("A: b"), []string{"a"}, false); string(got) != "A: b\r\n" {
		t.Errorf("P13.2: a line without an end: %q", got)
	}
	got := header.Only(in, nil, true)
	got[0] = 'x'
	if !bytes.Equal(in, []byte(b)) {
		t.Error("R3: what is handed out is new")
	}
	if got := header.Only(nil, nil, true); string(got) != "\r\n" {
		t.Errorf("P13.2: Only of nothing: %q", got)
	}
}

func TestFold(t *testing.T) {
	if got := header.Fold("AbZ[\u00c9@"); got != "abz[\u00c9@" {
		t.Errorf("P13.1: Fold: %q", got)
	}
}
