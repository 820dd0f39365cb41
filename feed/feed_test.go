package feed_test

import (
	"fmt"
	"math/rand"
	"strings"
	"testing"

	"cubby/api"
	"cubby/feed"
)

// told is all that comes of what was put, as one text.
func told(f *feed.Feed) string {
	var out []string
	for {
		b, n := f.Next()
		if n != 1 && len(b) > 0 {
			return "bytes beside another answer than 1"
		}
		if n == 0 {
			return strings.Join(out, " ")
		}
		if n == 1 {
			out = append(out, fmt.Sprintf("1%q", b))
		} else {
			out = append(out, fmt.Sprint(n))
		}
	}
}

func TestCommands(t *testing.T) {
	rows := []struct {
		in, want string
		held     int
	}{
		{"", "", 0},
		{"a NOOP\r\nb", `1"a NOOP"`, 1},
		{"\r\n", `1""`, 0},
		{"a\r\nb\r\n\r\n", `1"a" 1"b" 1""`, 0},
		{"a {3}\r\n", "2", 7},
		{"a {3}\r\nabc\r\n", `2 1"a {3}\r\nabc"`, 0},
		{"a {3}\r\nabc x\r\n", `2 1"a {3}\r\nabc x"`, 0},
		{"a{3}\r\n\r\n\r\r\n", `2 1"a{3}\r\n\r\n\r"`, 0},
		{"a {0}\r\n\r\n", `2 1"a {0}\r\n"`, 0},
		{"a {1}\r\nx{2}\r\nyz\r\n", `2 2 1"a {1}\r\nx{2}\r\nyz"`, 0},
		{"a {2}\r\n{9\r\n", `2 1"a {2}\r\n{9"`, 0},
		{"a {3}\r\n{1}\r\n", `2 1"a {3}\r\n{1}"`, 0},
		{"a {2}\r\n{1}\r\n", `2 1"a {2}\r\n{1}"`, 0},
		{"a {1}\r\n{1}\r\n", `2 1"a {1}\r\n{1}"`, 0},
		{"{2}\r\n\r\n\n\r\n", `2 1"{2}\r\n\r\n\n"`, 0},
		{"a {03}\r\n", `1"a {03}"`, 0},
		{"a {}\r\n", `1"a {}"`, 0},
		{"a {1+}\r\n", `1"a {1+}"`, 0},
		{"a {1} \r\n", `1"a {1} "`, 0},
		{"a {1}\r\r\n", `1"a {1}\r"`, 0},
		{"a {-1}\r\n", `1"a {-1}"`, 0},
		{"a 1}\r\n", `1"a 1}"`, 0},
		{"a {1\r\n", `1"a {1"`, 0},
		{"a {12345678901}\r\n", `1"a {12345678901}"`, 0},
		{"a \n\r x\r\n", `1"a \n\r x"`, 0},
		{"a {{1}\r\nx\r\n", `2 1"a {{1}\r\nx"`, 0},
		{"a {16385}\r\nb\r\n", `3 1"b"`, 0},
		{"a {9999999999}\r\nb\r\n", `3 1"b"`, 0},
		{"a {16384}\r\nb\r\n", `2`, 14},
		{"a\r", "", 2},
		{"a\r\n{1}\r\nx\r\n{1}\r\ny\r\n", `1"a" 2 1"{1}\r\nx" 2 1"{1}\r\ny"`, 0},
	}
	for _, r := range rows {
		f := feed.New()
		f.Put([]byte(r.in))
		if f.Held() != len(r.in) {
			t.Errorf("P10.2: %q: held ahead of Next: %d", r.in, f.Held())
		}
		if got := told(f); got != r.want || f.Held() != r.held {
			t.Errorf("P10.1: %q: %s, %d held; want %s, %d", r.in, got, f.Held(), r.want, r.held)
		}
	}
}

func TestTooLong(t *testing.T) {
	x := func(n int) string { return strings.Repeat("x", n) }
	most := api.MaxLine
	rows := []struct{ in, want string }{
		{x(most-2) + "\r\na\r\n", "1" + fmt.Sprintf("%q", x(most-2)) + ` 1"a"`},
		{x(most-1) + "\r\na\r\n", `3 1"a"`},
		{x(most) + "\r\na\r\n", `3 1"a"`},
		{x(most+1) + "\r\na\r\n", `3 1"a"`},
		{x(most+900) + "\n\r\r\na\r\n", `3 1"a"`},
		{x(most) + "\r\r\na\r\n", `3 1"a"`},
		{x(most-1) + "\rq\r\na\r\n", `3 1"a"`},
		{x(most+1) + "{3}\r\na\r\n", `3 1"a"`},
		{x(most-4) + "{3}\r\na\r\n", `3 1"a"`},
		{x(most-5) + "{1}\r\na\r\n", `2 3`},
		{x(most-6) + "{1}\r\na\r\nb\r\n", `2 3 1"b"`},
		{x(most-7) + "{1}\r\na\r\nb\r\n", "2 1" + fmt.Sprintf("%q", x(most-7)+"{1}\r\na") + ` 1"b"`},
		{x(most-8) + "{99999}\r\na\r\n", `3 1"a"`},
		{x(most-8) + "{99999}\r\na\r\n", `3 1"a"`},
		{x(most-6) + "{99999}\r\na\r\n", `3 1"a"`},
	}
	for i, r := range rows {
		f := feed.New()
		f.Put([]byte(r.in))
		got := told(f)
		if got != r.want {
			t.Errorf("P10.1: row %d: %.40s; want %.40s", i, got, r.want)
		}
	}
	f := feed.New()
	f.Put([]byte(x(most + 500)))
	if _, n := f.Next(); n != 3 || f.Held() != 499 {
		t.Errorf("P10.2: %d held behind what was thrown away", f.Held())
	}
	if _, n := f.Next(); n != 0 || f.Held() != 0 {
		t.Errorf("P10.2: %d held of what is thrown away", f.Held())
	}
}

func TestLiterals(t *testing.T) {
	f := feed.New()
	one := "{2}\r\nab"
	f.Put([]byte(strings.Repeat(one, api.MaxLiterals) + "\r\n"))
	want := strings.Repeat("2 ", api.MaxLiterals) + "1" + fmt.Sprintf("%q", strings.Repeat(one, api.MaxLiterals))
	if got := told(f); got != want {
		t.Errorf("P10.1: as many literals as may be: %s", got)
	}
	f.Put([]byte(strings.Repeat(one, api.MaxLiterals+1) + "\r\nc\r\n"))
	if got := told(f); got != strings.Repeat("2 ", api.MaxLiterals)+`3 1"ab" 1"c"` {
		t.Errorf("P10.1: one literal more: %s", got)
	}
	f.Put([]byte("a {16384}\r\n" + strings.Repeat("\r", api.MaxLiteral)))
	if got := told(f); got != "2" || f.Held() != 11+api.MaxLiteral {
		t.Errorf("P10.1: the longest literal: %s, %d", got, f.Held())
	}
	f.Put([]byte("\n"))
	if got := told(f); got != "" {
		t.Errorf("P10.1: a CR of a literal, and an LF of the line, are no line's end: %.20s", got)
	}
	f.Put([]byte("\r\n"))
	if got := told(f); got != fmt.Sprintf("1%q", "a {16384}\r\n"+strings.Repeat("\r", api.MaxLiteral)+"\n") {
		t.Errorf("P10.1: %.30s", got)
	}
}

func TestBytesMayBePartedAnyhow(t *testing.T) {
	pieces := []string{"a", "NOOP", "\r\n", "\r", "\n", "{1}\r\n", "{3}\r\n", "{0}\r\n", "{20000}\r\n", " ", "{", "}", "9", strings.Repeat("y", 1500), strings.Repeat("z", 4090)}
	for seed := int64(0); seed < 400; seed++ {
		r := rand.New(rand.NewSource(seed))
		var in strings.Builder
		for range r.Intn(40) {
			in.WriteString(pieces[r.Intn(len(pieces))])
		}
		whole := feed.New()
		whole.Put([]byte(in.String()))
		want := told(whole)
		parted := feed.New()
		var got []string
		for rest := []byte(in.String()); len(rest) > 0; {
			n := 1 + r.Intn(len(rest))
			if r.Intn(3) > 0 {
				n = 1 + r.Intn(min(9, len(rest)))
			}
			piece := append([]byte{}, rest[:n]...)
			parted.Put(piece)
			for i := range piece {
				piece[i] = 'Q'
			}
			if s := told(parted); s != "" {
				got = append(got, s)
			}
			if parted.Held() > api.MaxLine+api.MaxLiterals*api.MaxLiteral {
				t.Fatal("P10.2: more is held than may be")
			}
			rest = rest[n:]
		}
		if strings.Join(got, " ") != want || parted.Held() != whole.Held() {
			t.Fatalf("seed %d: %.60q; want %.60q", seed, got, want)
		}
	}
}

func TestNil(t *testing.T) {
	var f *feed.Feed
	f.Put([]byte("a\r\n"))
	if b, n := f.Next(); b != nil || n != 0 || f.Held() != 0 {
		t.Error("P10.2: of nil")
	}
}
