package section_test

import (
	"testing"

	"cubby/api"
	"cubby/section"
)

// letter is a message of three parts: a text, a message of two parts, and a message that is one text.
const letter = "Subject: all\r\nContent-Type: multipart/mixed; boundary=b\r\n\r\n" +
	"--b\r\nContent-ID: one\r\n\r\n1st\r\n" +
	"--b\r\nContent-Type: message/rfc822\r\n\r\nSubject: two\r\nX: y\r\nContent-Type: multipart/x; boundary=c\r\n\r\n--c\r\n\r\n2.1\r\n--c\r\nA: b\r\n\r\n2.2\r\n--c--\r\n" +
	"--b\r\nContent-Type: message/rfc822\r\n\r\nSubject: three\r\n\r\n3rd\r\n" +
	"--b--\r\n"

const two = "Subject: two\r\nX: y\r\nContent-Type: multipart/x; boundary=c\r\n\r\n"

func TestOf(t *testing.T) {
	const none = "\x00none"
	sec := func(kind int, path ...int) api.Section { return api.Section{Path: path, Kind: kind} }
	only := func(kind int, fields []string, path ...int) api.Section {
		return api.Section{Path: path, Kind: kind, Fields: fields}
	}
	head := "Subject: all\r\nContent-Type: multipart/mixed; boundary=b\r\n\r\n"
	twoBody := "--c\r\n\r\n2.1\r\n--c\r\nA: b\r\n\r\n2.2\r\n--c--"
	rows := []struct {
		s    api.Section
		want string
	}{
		{sec(api.PartAll), letter}, {sec(api.PartHeader), head}, {sec(api.PartText), letter[len(head):]}, {sec(api.PartMime), none},
		{only(api.PartFields, []string{"SUBJECT", "x"}), "Subject: all\r\n\r\n"}, {only(api.PartNot, []string{"SUBJECT", "x"}), "Content-Type: multipart/mixed; boundary=b\r\n\r\n"},
		{sec(api.PartAll, 1), "1st"}, {sec(api.PartMime, 1), "Content-ID: one\r\n\r\n"}, {sec(api.PartHeader, 1), none}, {sec(api.PartText, 1), none}, {only(api.PartFields, nil, 1), none}, {only(api.PartNot, nil, 1), none},
		{sec(api.PartAll, 1, 1), "1st"}, {sec(api.PartAll, 1, 1, 1, 1), "1st"}, {sec(api.PartAll, 1, 2), none}, {sec(api.PartMime, 1, 1), "Content-ID: one\r\n\r\n"},
		{sec(api.PartAll, 2), two + twoBody}, {sec(api.PartMime, 2), "Content-Type: message/rfc822\r\n\r\n"}, {sec(api.PartHeader, 2), two}, {sec(api.PartText, 2), twoBody}, {only(api.PartFields, []string{"x"}, 2), "X: y\r\n\r\n"}, {only(api.PartNot, []string{"x", "content-type"}, 2), "Subject: two\r\n\r\n"},
		{sec(api.PartAll, 2, 1), "2.1"}, {sec(api.PartAll, 2, 2), "2.2"}, {sec(api.PartMime, 2, 2), "A: b\r\n\r\n"}, {sec(api.PartAll, 2, 3), none}, {sec(api.PartHeader, 2, 1), none}, {sec(api.PartAll, 2, 1, 1), "2.1"}, {sec(api.PartAll, 2, 0), none},
		{sec(api.PartAll, 3), "Subject: three\r\n\r\n3rd"}, {sec(api.PartText, 3), "3rd"}, {sec(api.PartAll, 3, 1), "3rd"}, {sec(api.PartMime, 3, 1), "Subject: three\r\n\r\n"}, {sec(api.PartAll, 3, 2), none}, {sec(api.PartHeader, 3, 1), none},
		{sec(api.PartAll, 4), none}, {sec(api.PartAll, 0), none}, {sec(api.PartAll, -1), none}, {sec(api.PartAll, 1<<60), none},
		{sec(6), none}, {sec(-1), none}, {sec(6, 1), none},
	}
	for _, r := range rows {
		b, ok := section.Of([]byte(letter), r.s)
		if r.want == none {
			if ok || len(b) > 0 {
				t.Errorf("P16.1: %v: %q", r.s, b)
			}
			continue
		}
		if !ok || string(b) != r.want {
			t.Errorf("P16.1: %v: %q, %v; want %q", r.s, b, ok, r.want)
		}
	}
}

func TestOfPlainOnes(t *testing.T) {
	b := []byte("A: b\r\n\r\nx")
	for _, r := range []struct {
		s    api.Section
		want string
	}{
		{api.Section{Kind: api.PartText}, "x"}, {api.Section{Kind: api.PartHeader}, "A: b\r\n\r\n"}, {api.Section{Path: []int{1}}, "x"}, {api.Section{Path: []int{1}, Kind: api.PartMime}, "A: b\r\n\r\n"},
	} {
		if got, ok := section.Of(b, r.s); !ok || string(got) != r.want {
			t.Errorf("P16.1: %v: %q, %v", r.s, got, ok)
		}
	}
	got, _ := section.Of(b, api.Section{})
	got[0] = 'z'
	if b[0] != 'A' {
		t.Error("R3: what is handed out is new")
	}
	if _, ok := section.Of([]byte("Content-Type: multipart/x\r\n\r\nq"), api.Section{Path: []int{1}}); ok {
		t.Error("P16.1: a multipart without parts has none")
	}
	inner := []byte("Content-Type: message/rfc822\n\nContent-Type: message/rfc822\n\nS: t\n\nq")
	if got, ok := section.Of(inner, api.Section{Path: []int{1}}); !ok || string(got) != "q" {
		t.Errorf("P16.1: a message in a message: %q, %v", got, ok)
	}
	if got, ok := section.Of(nil, api.Section{}); !ok || len(got) != 0 {
		t.Error("P16.1: of nothing")
	}
}

func TestFind(t *testing.T) {
	p, ok := section.Find([]byte(letter), nil)
	if !ok || p.Type != "multipart" || len(p.Parts) != 3 || p.To != len(letter) {
		t.Errorf("P16.1: Find of no path: %+v", p)
	}
	p, ok = section.Find([]byte(letter), []int{2})
	if !ok || p.Type != "message" || len(p.Parts) != 1 {
		t.Errorf("P16.1: Find 2: %+v", p)
	}
	p, ok = section.Find([]byte(letter), []int{2, 2})
	if !ok || p.Type != "text" || letter[p.From:p.To] != "2.2" {
		t.Errorf("P16.1: Find 2.2: %+v", p)
	}
	p, ok = section.Find([]byte(letter), []int{2, 9})
	if ok || p.Type != "" || p.To != 0 {
		t.Errorf("P16.1: Find 2.9: %+v", p)
	}
}

func TestCut(t *testing.T) {
	b := []byte("abcde")
	for _, r := range []struct {
		from, count int
		want        string
	}{
		{0, 0, "abcde"}, {1, 0, "bcde"}, {1, 2, "bc"}, {3, 9, "de"}, {5, 1, ""}, {5, 0, ""}, {6, 1, ""}, {6, 0, ""}, {-1, 2, ""}, {0, -1, ""}, {0, 5, "abcde"}, {1, 1<<63 - 1, "bcde"}, {1<<63 - 1, 1<<63 - 1, ""},
	} {
		if got := section.Cut(b, r.from, r.count); string(got) != r.want {
			t.Errorf("P16.2: Cut(%d, %d): %q; want %q", r.from, r.count, got, r.want)
		}
	}
	section.Cut(b, 0, 0)[0] = 'z'
	if b[0] != 'a' {
		t.Error("R3: what is handed out is new")
	}
}

func TestEnvelopeAndStructure(t *testing.T) {
	b := []byte("Subject: s\r\nFrom: a@b\r\n\r\nx\r\n")
	if got := section.Envelope(b); got != `(NIL "s" ((NIL NIL "a" "b")) ((NIL NIL "a" "b")) ((NIL NIL "a" "b")) NIL NIL NIL NIL NIL)` {
		t.Errorf("P16.2: Envelope: %s", got)
	}
	if got := section.Structure(b); got != `("text" "plain" NIL NIL NIL "7bit" 3 1)` {
		t.Errorf("P16.2: Structure: %s", got)
	}
}
