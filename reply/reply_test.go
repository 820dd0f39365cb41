package reply_test

import (
	"math/rand"
	"reflect"
	"slices"
	"strings"
	"testing"

	"cubby/api"
	"cubby/reply"
)

func same(a, b api.Reply) bool {
	for _, r := range []*api.Reply{&a, &b} {
		if len(r.Nums) == 0 {
			r.Nums = nil
		}
		if len(r.Flags) == 0 {
			r.Flags = nil
		}
		if len(r.Pairs) == 0 {
			r.Pairs = nil
		}
	}
	return reflect.DeepEqual(a, b)
}

type row struct {
	r    api.Reply
	want string
}

func rows() []row {
	nums := slices.Repeat([]uint32{7}, 256)
	return []row{
		{api.Reply{Tag: "a1", Kind: api.ReplyOk, Text: "done"}, "a1 OK done"},
		{api.Reply{Tag: "*", Kind: api.ReplyOk, Text: "x [y] {3}"}, "* OK x [y] {3}"},
		{api.Reply{Tag: "a", Kind: api.ReplyNo, Code: "LIMIT", Text: "no"}, "a NO [LIMIT] no"},
		{api.Reply{Tag: "a", Kind: api.ReplyBad, Code: "a [b \"c", Text: " x"}, "a BAD [a [b \"c]  x"},
		{api.Reply{Tag: strings.Repeat("t", 24), Kind: api.ReplyOk, Code: strings.Repeat("c", 8000), Text: strings.Repeat("x", 200)}, strings.Repeat("t", 24) + " OK [" + strings.Repeat("c", 8000) + "] " + strings.Repeat("x", 200)},
		{api.Reply{Tag: "*", Kind: api.ReplyBye, Text: "bye"}, "* BYE bye"},
		{api.Reply{Tag: "*", Kind: api.ReplyBye, Code: "X", Text: "bye"}, "* BYE [X] bye"},
		{api.Reply{Tag: "+", Kind: api.ReplyMore, Text: "ready"}, "+ ready"},
		{api.Reply{Tag: "!~", Kind: api.ReplyOk, Code: "~ !", Text: "~ !"}, "!~ OK [~ !] ~ !"},
		{api.Reply{Tag: "*", Kind: api.ReplyFlags, Flags: slices.Repeat([]string{"~!"}, 256)}, "* FLAGS (" + strings.Repeat("~! ", 255) + "~!)"},
		{api.Reply{Tag: "*", Kind: api.ReplyCaps, Flags: slices.Repeat([]string{"~!"}, 256)}, "* CAPABILITY" + strings.Repeat(" ~!", 256)},
		{api.Reply{Tag: "*", Kind: api.ReplyFetch, N: 1, Pairs: []api.Pair{{Name: "X", Value: strings.Repeat("\xff", api.MaxLiteral), Lit: true}}}, "* 1 FETCH (X {16384}\r\n" + strings.Repeat("\xff", api.MaxLiteral) + ")"},
		{api.Reply{Tag: "*", Kind: api.ReplyList, Flags: []string{`\Noselect`}, Text: "a"}, `* LIST (\Noselect) "/" "a"`},
		{api.Reply{Tag: "*", Kind: api.ReplyList, Text: `x"\`}, `* LIST () "/" "x\"\\"`},
		{api.Reply{Tag: "*", Kind: api.ReplyList, Flags: []string{"a", "b"}, Text: "\xff\r\n"}, "* LIST (a b) \"/\" {3}\r\n\xff\r\n"},
		{api.Reply{Tag: "*", Kind: api.ReplyList, Text: strings.Repeat("n", 200)}, `* LIST () "/" "` + strings.Repeat("n", 200) + `"`},
		{api.Reply{Tag: "*", Kind: api.ReplyExist, N: 3}, "* 3 EXISTS"},
		{api.Reply{Tag: "*", Kind: api.ReplyExist}, "* 0 EXISTS"},
		{api.Reply{Tag: "*", Kind: api.ReplyGone, N: 4294967295}, "* 4294967295 EXPUNGE"},
		{api.Reply{Tag: "*", Kind: api.ReplyHits}, "* SEARCH"},
		{api.Reply{Tag: "*", Kind: api.ReplyHits, Nums: []uint32{2, 1, 4294967295}}, "* SEARCH 2 1 4294967295"},
		{api.Reply{Tag: "*", Kind: api.ReplyHits, Nums: nums}, "* SEARCH" + strings.Repeat(" 7", 256)},
		{api.Reply{Tag: "*", Kind: api.ReplyFlags}, "* FLAGS ()"},
		{api.Reply{Tag: "*", Kind: api.ReplyFlags, Flags: []string{`\Seen`, "x"}}, `* FLAGS (\Seen x)`},
		{api.Reply{Tag: "*", Kind: api.ReplyCaps, Flags: []string{"IMAP4rev1", "UIDPLUS"}}, "* CAPABILITY IMAP4rev1 UIDPLUS"},
		{api.Reply{Tag: "*", Kind: api.ReplyCaps}, "* CAPABILITY"},
		{api.Reply{Tag: "*", Kind: api.ReplyState, Text: "a b", Pairs: []api.Pair{{Name: "MESSAGES", Value: "0"}, {Name: "UNSEEN", Value: "7"}}}, `* STATUS "a b" (MESSAGES 0 UNSEEN 7)`},
		{api.Reply{Tag: "*", Kind: api.ReplyFetch, N: 7, Pairs: []api.Pair{{Name: "UID", Value: "9"}, {Name: "FLAGS", Value: `(\Seen x)`}, {Name: "BODY[]", Value: "a\r\n", Lit: true}, {Name: "BODY[1.HEADER.FIELDS (\"a\")]<0>", Value: "q", Lit: true}, {Name: "X[]", Value: "NIL"}}}, "* 7 FETCH (UID 9 FLAGS (\\Seen x) BODY[] {3}\r\na\r\n BODY[1.HEADER.FIELDS (\"a\")]<0> \"q\" X[] NIL)"},
		{api.Reply{Tag: "*", Kind: api.ReplyFetch, N: 1, Pairs: []api.Pair{{Name: "ENVELOPE", Value: "(\"a)\\\"(\" NIL ({3}\r\n)(\" x)[)"}}}, "* 1 FETCH (ENVELOPE (\"a)\\\"(\" NIL ({3}\r\n)(\" x)[))"},
		{api.Reply{Tag: "*", Kind: api.ReplyFetch, N: 1, Pairs: []api.Pair{{Name: "a<b", Value: "()"}, {Name: "b", Lit: true}}}, `* 1 FETCH (a<b () b "")`},
	}
}

func TestPrintAndParse(t *testing.T) {
	for i, r := range rows() {
		want := r.want + "\r\n"
		b, e := reply.Print(r.r)
		if e != api.OK || string(b) != want {
			t.Errorf("P12.1: row %d: Print: %.80q, %d", i, b, e)
			continue
		}
		for _, behind := range []string{"", "x", "\r\n", "* OK", "\x00"} {
			got, n, e := reply.Parse([]byte(want + behind))
			if e != api.OK || n != len(want) || !same(got, r.r) {
				t.Errorf("P12.1: row %d: Parse: %+v, %d, %d", i, got, n, e)
			}
		}
		for cut := range len(want) {
			if cut > 400 && cut < len(want)-300 {
				continue
			}
			if got, n, e := reply.Parse([]byte(want[:cut])); e != api.ErrShort || n != 0 || !same(got, api.Reply{}) {
				t.Fatalf("P12.1: row %d: Parse of %.60q: %d", i, want[:cut], e)
			}
		}
	}
}

func TestPrintRefuses(t *testing.T) {
	ok := func(change func(*api.Reply)) api.Reply {
		r := api.Reply{Tag: "a", Kind: api.ReplyOk, Text: "done"}
		change(&r)
		return r
	}
	fetch := func(p ...api.Pair) api.Reply {
		return api.Reply{Tag: "*", Kind: api.ReplyFetch, N: 1, Pairs: p}
	}
	value := func(s string) api.Reply { return fetch(api.Pair{Name: "X", Value: s}) }
	name := func(s string) api.Reply { return fetch(api.Pair{Name: s, Value: "1"}) }
	bad := []api.Reply{
		{}, {Tag: "*"}, {Tag: "*", Kind: 14, Text: "x"}, {Tag: "*", Kind: -1},
		ok(func(r *api.Reply) { r.Tag = "" }), ok(func(r *api.Reply) { r.Tag = "+" }), ok(func(r *api.Reply) { r.Tag = "a*" }), ok(func(r *api.Reply) { r.Tag = "a b" }), ok(func(r *api.Reply) { r.Tag = "(" }), ok(func(r *api.Reply) { r.Tag = strings.Repeat("a", 25) }),
		ok(func(r *api.Reply) { r.Text = "" }), ok(func(r *api.Reply) { r.Text = "[x] y" }), ok(func(r *api.Reply) { r.Text = "x\r\n* OK y" }), ok(func(r *api.Reply) { r.Text = "\xff" }), ok(func(r *api.Reply) { r.Text = strings.Repeat("x", 201) }), ok(func(r *api.Reply) { r.Text = "\x7f" }),
		ok(func(r *api.Reply) { r.Code = "]" }), ok(func(r *api.Reply) { r.Code = "a\r" }), ok(func(r *api.Reply) { r.Code = strings.Repeat("x", 8001) }),
		ok(func(r *api.Reply) { r.N = 1 }), ok(func(r *api.Reply) { r.Nums = []uint32{1} }), ok(func(r *api.Reply) { r.Flags = []string{"a"} }), ok(func(r *api.Reply) { r.Pairs = []api.Pair{{}} }),
		{Tag: "a", Kind: api.ReplyBye, Text: "x"}, {Tag: "*", Kind: api.ReplyMore, Text: "x"}, {Tag: "+", Kind: api.ReplyMore, Text: "x", Code: "y"}, {Tag: "+", Kind: api.ReplyMore},
		{Tag: "*", Kind: api.ReplyList}, {Tag: "*", Kind: api.ReplyList, Text: "a\x00"}, {Tag: "*", Kind: api.ReplyList, Text: strings.Repeat("n", 201)}, {Tag: "*", Kind: api.ReplyList, Text: "a", Flags: []string{""}}, {Tag: "*", Kind: api.ReplyList, Text: "a", Flags: []string{"a b"}}, {Tag: "a", Kind: api.ReplyList, Text: "a"},
		{Tag: "*", Kind: api.ReplyGone}, {Tag: "a", Kind: api.ReplyExist}, {Tag: "*", Kind: api.ReplyHits, Nums: make([]uint32, 257)}, {Tag: "*", Kind: api.ReplyFlags, Flags: strings.Split(strings.Repeat("a ", 256)+"a", " ")}, {Tag: "*", Kind: api.ReplyCaps, Flags: []string{""}}, {Tag: "*", Kind: api.ReplyCaps, Flags: strings.Split(strings.Repeat("a ", 256)+"a", " ")}, {Tag: "*", Kind: api.ReplyExist, Text: "x"},
		{Tag: "*", Kind: api.ReplyState, Text: "a"}, {Tag: "*", Kind: api.ReplyState, Pairs: []api.Pair{{Name: "a", Value: "1"}}}, {Tag: "*", Kind: api.ReplyFetch, Pairs: []api.Pair{{Name: "a", Value: "1"}}},
		fetch(), fetch(make([]api.Pair, 2)...), value(""), value("a b"), value("(a"), value("a)"), value("(a))"), value("(a)(b)"), value("(a) b"), value("\"a\""), value("(\")"), value("({5}\r\na)"), value("(\r\n)"), value("(\xff)"), value("(\"\\a\")"), value("({01}\r\na)"), value("({1}\r\n\x00)"),
		name(""), name("a b"), name("a["), name("a[]]"), name("[]"), name("a[]b"), name("a[]<" + "("), name("a[\xff]"), name("a[]<0>[]"),
		fetch(api.Pair{Name: "a", Value: "\x00", Lit: true}), fetch(api.Pair{Name: "a", Value: strings.Repeat("\xff", api.MaxLiteral+1), Lit: true}),
	}
	many := fetch()
	for range 41 {
		many.Pairs = append(many.Pairs, api.Pair{Name: "a", Value: "1"})
	}
	bad = append(bad, many)
	for i, r := range bad {
		if b, e := reply.Print(r); e != api.ErrForm || b != nil {
			t.Errorf("P12.1: row %d: %.60q, %d", i, b, e)
		}
	}
	many.Pairs = many.Pairs[:40]
	if _, e := reply.Print(many); e != api.OK {
		t.Errorf("P12.1: 40 pairs: %d", e)
	}
}

func TestParseOfOtherBytes(t *testing.T) {
	for _, s := range []string{
		"\r\n", "a\r\n", "a OK\r\n", "a OK \r\n", "a OK x\n", "a OK x\r\r\n", "a ok x\r\n", "a OKAY x\r\n", "a BYE x\r\n", "* 1 FOO\r\n", "* 01 EXISTS\r\n", "* 4294967296 EXISTS\r\n", "* 0 EXPUNGE\r\n", "* -1 EXISTS\r\n", "* EXISTS\r\n", "* LIST () \"/\" a\r\n", "* LIST () \"/\" {1}\r\na\r\n", "* LIST () NIL \"a\"\r\n", "* LIST () \"/\" \"\"\r\n", "* SEARCH \r\n", "* SEARCH 1 \r\n", "* SEARCH 01\r\n", "* FLAGS ( )\r\n", "* FLAGS (a )\r\n", "* 1 FETCH ()\r\n", "* 1 FETCH (A {1}\r\na)\r\n", "* 1 FETCH (A)\r\n", "* 1 FETCH (A 1 )\r\n", "* 0 FETCH (A 1)\r\n", "+ \r\n", "+\r\n", "a OK [] x\r\n", "a OK [x]y\r\n", "a* OK x\r\n", "a OK \xff\r\n", "* STATUS a (A 1)\r\n", "* FLAGS (\"a\")\r\n",
	} {
		if r, n, e := reply.Parse([]byte(s)); e == api.OK || n != 0 || !same(r, api.Reply{}) {
			t.Errorf("P12.1: Parse(%q): %+v, %d, %d", s, r, n, e)
		}
	}
	r := rand.New(rand.NewSource(12))
	all := rows()
	for range 20000 {
		b := []byte(all[r.Intn(len(all))].want + "\r\n")
		if len(b) > 300 {
			continue
		}
		for range 1 + r.Intn(3) {
			i := r.Intn(len(b))
			switch r.Intn(3) {
			case 0:
				b[i] = byte(r.Intn(256))
			case 1:
				b = append(b[:i], b[min(i+1, len(b)):]...)
			default:
				b[i] = "()[]{}\"\\ *\r\n01"[r.Intn(14)]
			}
			if len(b) == 0 {
				b = []byte("*")
			}
		}
		got, n, e := reply.Parse(b)
		if e != api.OK {
			if n != 0 || !same(got, api.Reply{}) {
				t.Fatalf("R4: %q", b)
			}
			continue
		}
		if back, e := reply.Print(got); e != api.OK || string(back) != string(b[:n]) {
			t.Fatalf("P12.1: Parse(%q): a reply that is printed as %q", b, back)
		}
	}
}

// some is a reply that may be right.
func some(r *rand.Rand) api.Reply {
	texts := []string{"", "a", "x y", "[", "]", "(", ")", "{1}", "\"q\"", "\\", "*", "+", "\r\n", "\xff", "NIL", "<0>", "BODY[]", "(a (b) \"(\" {1}\r\n))", "()", "((", "7", "a[b c]<d", "~", " "}
	text := func() string { return texts[r.Intn(len(texts))] }
	x := api.Reply{Kind: 1 + r.Intn(13), Tag: []string{"*", "*", "a1", "+", ""}[r.Intn(5)], Text: text()}
	switch r.Intn(4) {
	case 0:
		x.Code = text()
	case 1:
		x.N = uint32(r.Intn(3))
	}
	for range r.Intn(3) {
		switch x.Kind {
		case api.ReplyHits:
			x.Nums = append(x.Nums, 1+r.Uint32()>>uint(r.Intn(32)))
		case api.ReplyList, api.ReplyFlags, api.ReplyCaps:
			x.Flags = append(x.Flags, text())
		default:
			x.Pairs = append(x.Pairs, api.Pair{Name: text(), Value: text(), Lit: r.Intn(2) == 0})
		}
	}
	if x.Kind > api.ReplyMore && x.Kind != api.ReplyList && x.Kind != api.ReplyState {
		x.Text = ""
	}
	if x.Kind == api.ReplyFetch {
		x.N = 1
	}
	return x
}

func TestWhatIsPrintedIsParsed(t *testing.T) {
	r := rand.New(rand.NewSource(120))
	kinds := map[int]int{}
	for range 60000 {
		x := some(r)
		b, e := reply.Print(x)
		if e != api.OK {
			continue
		}
		kinds[x.Kind]++
		got, n, e := reply.Parse(append(b[:len(b):len(b)], "* OK x"...))
		if e != api.OK || n != len(b) || !same(got, x) {
			t.Fatalf("P12.1: Parse(%q): %+v, %d, %d", b, got, n, e)
		}
		if _, _, e := reply.Parse(b[:r.Intn(len(b))]); e != api.ErrShort {
			t.Fatalf("P12.1: a beginning of %q: %d", b, e)
		}
	}
	if len(kinds) != 13 {
		t.Errorf("only kinds %v were printed", kinds)
	}
}
