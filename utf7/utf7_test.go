package utf7_test

import (
	"math/rand"
	"strings"
	"testing"
	"unicode/utf8"

	"cubby/api"
	"cubby/utf7"
)

func TestForms(t *testing.T) {
	rows := []struct{ name, want string }{
		{"", ""},
		{"INBOX", "INBOX"},
		{" ~!\\\"", " ~!\\\""},
		{"a&b", "a&-b"},
		{"&", "&-"},
		{"&&", "&-&-"},
		{"\u00e9", "&AOk-"},
		{"\u00e9\u00e9", "&AOkA6Q-"},
		{"\u00e9\u00e9\u00e9", "&AOkA6QDp-"},
		{"~peter/mail/\u53f0\u5317/\u65e5\u672c\u8a9e", "~peter/mail/&U,BTFw-/&ZeVnLIqe-"},
		{"\u00e9&\u00e9", "&AOk-&-&AOk-"},
		{"\U0001f600", "&2D3eAA-"},
		{"\x00\x1f\x7f", "&AAAAHwB,-"},
		{"\ufffd", "&,,0-"},
		{"-\u00e9-", "-&AOk--"},
		{string([]rune{0xd7ff, 0xe000}), "&1,,gAA-"},
		{"\U00010000\U0010ffff", "&2ADcANv,3,8-"},
	}
	for _, r := range rows {
		if got, e := utf7.Encode(r.name); got != r.want || e != api.OK {
			t.Errorf("P5.1: Encode(%q): %q, %d; want %q", r.name, got, e, r.want)
		}
		if got, e := utf7.Decode(r.want); got != r.name || e != api.OK {
			t.Errorf("P5.1: Decode(%q): %q, %d; want %q", r.want, got, e, r.name)
		}
	}
}

func TestWrongNames(t *testing.T) {
	for _, s := range []string{"\xff", "a\xc3", "\xed\xa0\x80", "ok\x80"} {
		if got, e := utf7.Encode(s); got != "" || e != api.ErrForm {
			t.Errorf("P5.1: Encode(%q): %q, %d", s, got, e)
		}
	}
	wrong := []string{
		"&", "a&", "&AOk", "&AGE-", "&ACY-", "&AH4-", "&ACA-", // not ended; plain signs within
		"&AOk-&AOk-", "&AOl-", "&AOm-", // side by side; bits left over
		"&AO-", "&A-", "&AOkA-", "&AOkAA-", "&AOkA6QDpA-", // too few bits, or too many
		"&2D0-", "&3gA-", "&2D0A6Q-", "&3gDYPQ-", "&2D3YPQ-", // surrogates
		"&AO/-", "&AO=-", "&AOk=-", "& -", "&A Ok-", "&\u00e9-", // no base 64
		"\u00e9", "\x1f", "\x7f", "\n", "a\x00", "\x80", // these stand for themselves nowhere
		"&aok-x&", "&-&",
	}
	for _, s := range wrong {
		if got, e := utf7.Decode(s); got != "" || e != api.ErrForm {
			t.Errorf("P5.1: Decode(%q): %q, %d", s, got, e)
		}
	}
}

func TestEachNameHasOneForm(t *testing.T) {
	r := rand.New(rand.NewSource(1))
	signs := []rune{'a', '&', '-', '/', ' ', 0, 0x7f, 0xe9, 0x2022, 0xfffd, 0xffff, 0x10000, 0x10ffff, 0x1f600}
	for range 3000 {
		var b strings.Builder
		for range r.Intn(9) {
			b.WriteRune(signs[r.Intn(len(signs))])
		}
		name := b.String()
		s, e := utf7.Encode(name)
		if e != api.OK {
			t.Fatalf("P5.1: Encode(%q): %d", name, e)
		}
		if got, e := utf7.Decode(s); got != name || e != api.OK {
			t.Fatalf("P5.1: Decode(Encode(%q)): %q, %d", name, got, e)
		}
	}
	letters := "&-A,gOkQ6D3"
	for range 20000 {
		var b strings.Builder
		for range r.Intn(9) {
			b.WriteByte(letters[r.Intn(len(letters))])
		}
		name, e := utf7.Decode(b.String())
		if e == api.OK {
			if back, _ := utf7.Encode(name); back != b.String() || !utf8.ValidString(name) {
				t.Fatalf("P5.1: Decode(%q): %q", b.String(), name)
			}
		}
	}
}

func TestRight(t *testing.T) {
	for _, s := range []string{"INBOX", "a", "a/b", "a/b/c", "inboxes", "INBOX/a", "a b", " ", "\u00e9", "\u0080", "a&b", "\\\"", "\u0131nbox", strings.Repeat("x", 60), strings.Repeat("\u00e9", 30)} {
		if !utf7.Right(s) {
			t.Errorf("P5.1: Right(%q)", s)
		}
	}
	for _, s := range []string{"", "inbox", "Inbox", "INBOx", "/", "/a", "a/", "a//b", "a%", "*", "a\x1f", "\x00", "a\x7fb", "\xff", "a\xc3", strings.Repeat("x", 61), strings.Repeat("\u00e9", 31)} {
		if utf7.Right(s) {
			t.Errorf("P5.1: Right(%q): it may not be", s)
		}
	}
}
