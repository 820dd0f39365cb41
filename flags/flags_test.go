package flags_test

import (
	"math"
	"math/rand"
	"slices"
	"strconv"
	"strings"
	"testing"

	"cubby/api"
	"cubby/flags"
)

func TestFold(t *testing.T) {
	rows := []struct{ f, want string }{
		{`\Answered`, `\Answered`}, {`\DELETED`, `\Deleted`}, {`\draft`, `\Draft`}, {`\fLAGGED`, `\Flagged`}, {`\seen`, `\Seen`},
		{"Foo", "foo"}, {"AZ@`", "az@`"}, {"$Label1", "$label1"}, {"a}", "a}"}, {"$CUB12", "$cub12"}, {"Seen", "seen"}, {strings.Repeat("X", 24), strings.Repeat("x", 24)}, {"+x", "+x"},
	}
	for _, r := range rows {
		if got, e := flags.Fold(r.f); got != r.want || e != api.OK {
			t.Errorf("P9.1: Fold(%q): %q, %d", r.f, got, e)
		}
	}
	for _, f := range []string{"", `\Recent`, `\`, `\Seen2`, "a b", "a(", "[x]", "a%", "*", `a\b`, "a\"", "\u00e9", "\x7f", strings.Repeat("x", 25), `\*`} {
		if got, e := flags.Fold(f); got != "" || e != api.ErrForm {
			t.Errorf("P9.1: Fold(%q): %q, %d", f, got, e)
		}
	}
}

// many is n unlike keywords.
func many(n int) []string {
	var out []string
	for i := range n {
		out = append(out, "k"+strconv.Itoa(100+i))
	}
	return out
}

func TestAll(t *testing.T) {
	rows := []struct{ l, want []string }{
		{nil, nil},
		{[]string{"foo", `\Seen`, "Bar", "FOO", `\SEEN`}, []string{`\Seen`, "bar", "foo"}},
		{[]string{"z", "$CUB1", "0", `\Answered`, "$cub1"}, []string{"$cub1", "0", `\Answered`, "z"}},
	}
	for _, r := range rows {
		in := slices.Clone(r.l)
		if got, e := flags.All(r.l); e != api.OK || !slices.Equal(got, r.want) {
			t.Errorf("P9.1: All(%q): %q, %d", r.l, got, e)
		}
		if !slices.Equal(in, r.l) {
			t.Error("R3: what is handed in is changed")
		}
	}
	if got, e := flags.All([]string{"a", "a b"}); e != api.ErrForm || got != nil {
		t.Errorf("P9.1: All: %q, %d", got, e)
	}
	if got, e := flags.All(many(16)); e != api.OK || len(got) != 16 {
		t.Errorf("P9.1: as many as may be: %d", e)
	}
	if got, e := flags.All(append(many(16), "K100", "$cub7", "$cub8")); e != api.OK || len(got) != 18 {
		t.Errorf("P9.1: those that are the same, and tokens' keywords, are not counted: %d", e)
	}
	if got, e := flags.All(many(17)); e != api.ErrLong || got != nil {
		t.Errorf("P9.1: one more: %d", e)
	}
	if _, e := flags.All(append(many(17), "a b")); e != api.ErrForm {
		t.Errorf("P9.1: Fold's error is named first: %d", e)
	}
	if _, e := flags.All(append(many(16), "$cub0")); e != api.ErrLong {
		t.Errorf("P9.1: $cub0 is no token's keyword: %d", e)
	}
}

func TestHas(t *testing.T) {
	l := []string{`\Seen`, "Foo"}
	for _, f := range []string{`\SEEN`, "foo", "FOO"} {
		if !flags.Has(l, f) {
			t.Errorf("P9.1: Has %q", f)
		}
	}
	for _, f := range []string{"", "seen", "fo", "fooo", `\Draft`} {
		if flags.Has(l, f) {
			t.Errorf("P9.1: Has %q", f)
		}
	}
}

func TestDo(t *testing.T) {
	rows := []struct {
		op            int
		have, l, want []string
	}{
		{api.AddFlags, []string{`\Seen`}, []string{"Foo", `\SEEN`}, []string{`\Seen`, "foo"}},
		{api.SetFlags, []string{`\Seen`, "foo"}, []string{"B", "a"}, []string{"a", "b"}},
		{api.SetFlags, []string{"a"}, nil, nil},
		{api.RemoveFlags, []string{`\Seen`, "Foo", "bar"}, []string{"FOO", "x"}, []string{`\Seen`, "bar"}},
		{api.SetFlags, []string{"$cub5", "a"}, []string{"b"}, []string{"$cub5", "b"}},
		{api.SetFlags, []string{"a"}, []string{"$cub5", "b"}, []string{"b"}},
		{api.AddFlags, []string{"$CUB5"}, []string{"$cub6", "b"}, []string{"$cub5", "b"}},
		{api.RemoveFlags, []string{"$cub5", "b"}, []string{"$cub5", "b"}, []string{"$cub5"}},
		{api.AddFlags, []string{"z", "y", "z"}, []string{"x"}, []string{"x", "y", "z"}},
	}
	for _, r := range rows {
		if got, e := flags.Do(r.op, r.have, r.l); e != api.OK || !slices.Equal(got, r.want) {
			t.Errorf("P9.2: Do(%d, %q, %q): %q, %d", r.op, r.have, r.l, got, e)
		}
	}
}

func TestDoErrors(t *testing.T) {
	rows := []struct {
		op      int
		have, l []string
		want    api.Errno
	}{
		{0, nil, nil, api.ErrArg}, {4, []string{"a b"}, nil, api.ErrArg}, {-1, nil, []string{"a b"}, api.ErrArg}, {math.MaxInt, nil, nil, api.ErrArg},
		{api.SetFlags, nil, []string{"a b"}, api.ErrForm}, {api.SetFlags, []string{"a b"}, nil, api.ErrForm},
		{api.SetFlags, []string{"a b"}, many(17), api.ErrLong}, {api.RemoveFlags, many(17), nil, api.ErrLong}, {api.RemoveFlags, many(17), []string{"("}, api.ErrForm},
		{api.AddFlags, many(16), []string{"x"}, api.ErrLong}, {api.AddFlags, many(16), []string{"K101"}, api.OK}, {api.AddFlags, many(16), []string{"$cub1"}, api.OK}, {api.AddFlags, append(many(16), "$cub3"), nil, api.OK},
	}
	for i, r := range rows {
		got, e := flags.Do(r.op, r.have, r.l)
		if e != r.want || e != api.OK && got != nil {
			t.Errorf("P9.2: row %d: %q, %d; want %d", i, got, e, r.want)
		}
	}
}

func TestTokens(t *testing.T) {
	for _, n := range []uint64{1, 9, 10, 12345, 1 << 63, math.MaxUint64} {
		f := flags.Token(n)
		if f != "$cub"+strconv.FormatUint(n, 10) {
			t.Errorf("P9.2: Token(%d): %q", n, f)
		}
		for _, g := range []string{f, strings.ToUpper(f), "$Cub" + f[4:]} {
			if got, ok := flags.Number(g); got != n || !ok {
				t.Errorf("P9.2: Number(%q): %d, %v", g, got, ok)
			}
		}
	}
	for _, f := range []string{"", "$cub", "$cub0", "$cub01", "$cub+1", "$cub1a", "$cub-1", "$cub 1", "cub1", "x$cub1", "$cub18446744073709551616", "$cub99999999999999999999"} {
		if n, ok := flags.Number(f); n != 0 || ok {
			t.Errorf("P9.2: Number(%q): %d, %v", f, n, ok)
		}
	}
	got := flags.Hide([]string{"z", "$cub1", "$cub0", "A", "$CUB22", "$cub1a", "$cub1/", "z"})
	if !slices.Equal(got, []string{"z", "$cub0", "A", "$cub1a", "$cub1/", "z"}) {
		t.Errorf("P9.2: Hide: %q", got)
	}
	if len(flags.Hide(nil)) != 0 {
		t.Error("P9.2: Hide of nothing")
	}
}

func TestDoneTwiceIsDoneOnce(t *testing.T) {
	r := rand.New(rand.NewSource(9))
	words := []string{`\Seen`, `\seen`, `\Deleted`, "a", "A", "b", "$cub1", "$cub2", "c"}
	some := func() []string {
		var out []string
		for range r.Intn(5) {
			out = append(out, words[r.Intn(len(words))])
		}
		return out
	}
	for range 2000 {
		op, have, l := 1+r.Intn(3), some(), some()
		once, e := flags.Do(op, have, l)
		if e != api.OK {
			t.Fatal(e)
		}
		twice, _ := flags.Do(op, once, l)
		if !slices.Equal(once, twice) {
			t.Fatalf("done twice: %d %q %q: %q, %q", op, have, l, once, twice)
		}
		for _, f := range flags.Hide(l) {
			if flags.Has(once, f) != (op != api.RemoveFlags) {
				t.Fatalf("P9.2: %d %q %q: %q", op, have, l, once)
			}
		}
	}
}
