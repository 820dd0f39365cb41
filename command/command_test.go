package command_test

import (
	"math/rand"
	"reflect"
	"strings"
	"testing"

	"cubby/api"
	"cubby/command"
)

func rng(from, to uint32) api.Range { return api.Range{From: from, To: to} }

var one = []api.Range{rng(1, 1)}

func body(path []int, kind int, fields ...string) api.Item {
	return api.Item{Kind: api.ItemBody, Section: api.Section{Path: path, Kind: kind, Fields: fields}}
}

func items(kinds ...int) []api.Item {
	var out []api.Item
	for _, k := range kinds {
		out = append(out, api.Item{Kind: k})
	}
	return out
}

// plain has no list that is empty and not nil.
func plain(v reflect.Value) {
	switch v.Kind() {
	case reflect.Struct:
		for i := range v.NumField() {
			plain(v.Field(i))
		}
	case reflect.Slice:
		if v.Len() == 0 {
			v.SetZero()
		}
		for i := range v.Len() {
			plain(v.Index(i))
		}
	}
}

func same(a, b api.Command) bool {
	plain(reflect.ValueOf(&a).Elem())
	plain(reflect.ValueOf(&b).Elem())
	return reflect.DeepEqual(a, b)
}

type row struct {
	line string
	want api.Command
}

func rows() []row {
	seen := api.Key{Kind: api.KeyFlag, S: `\Seen`}
	return []row{
		{"a1 capability", api.Command{Kind: api.CmdCapability}},
		{"a1 NOOP", api.Command{Kind: api.CmdNoop}},
		{"a1 Logout", api.Command{Kind: api.CmdLogout}},
		{"a1 CHECK", api.Command{Kind: api.CmdCheck}},
		{"a1 CLOSE", api.Command{Kind: api.CmdClose}},
		{"a1 EXPUNGE", api.Command{Kind: api.CmdExpunge}},
		{"a1 UID EXPUNGE 1:3", api.Command{Kind: api.CmdExpunge, Uid: true, Set: []api.Range{rng(1, 3)}}},
		{"a1 LOGIN me \"a \\\"b\"", api.Command{Kind: api.CmdLogin, Box: "me", To: `a "b`}},
		{"a1 login {2}\r\n\xff\n \"\"", api.Command{Kind: api.CmdLogin, Box: "\xff\n"}},
		{"a1 SELECT inBOX", api.Command{Kind: api.CmdSelect, Box: "INBOX"}},
		{"a1 EXAMINE \"inbox\"", api.Command{Kind: api.CmdExamine, Box: "INBOX"}},
		{"a1 CREATE {5}\r\na&-&-", api.Command{Kind: api.CmdCreate, Box: "a&&"}},
		{"a1 CREATE &AOk-/x", api.Command{Kind: api.CmdCreate, Box: "\u00e9/x"}},
		{"a1 DELETE \"a b\"", api.Command{Kind: api.CmdDelete, Box: "a b"}},
		{"a1 RENAME a Inbox", api.Command{Kind: api.CmdRename, Box: "a", To: "INBOX"}},
		{"a1 LIST \"\" *", api.Command{Kind: api.CmdList, To: "*"}},
		{"a1 LIST &AOk-/ \"%\"", api.Command{Kind: api.CmdList, Box: "\u00e9/", To: "%"}},
		{"a1 LIST inbox //", api.Command{Kind: api.CmdList, Box: "inbox", To: "//"}},
		{"a1 STATUS a (messages UNSEEN)", api.Command{Kind: api.CmdStatus, Box: "a", Items: items(api.ItemMessages, api.ItemUnseen)}},
		{"a1 STATUS a (UIDNEXT UIDVALIDITY UIDNEXT)", api.Command{Kind: api.CmdStatus, Box: "a", Items: items(api.ItemUidNext, api.ItemValidity, api.ItemUidNext)}},
		{"a1 APPEND a {3}\r\nx\r\n", api.Command{Kind: api.CmdAppend, Box: "a", Data: []byte("x\r\n")}},
		{"a1 APPEND a {0}\r\n", api.Command{Kind: api.CmdAppend, Box: "a"}},
		{"a1 APPEND a () {1}\r\nx", api.Command{Kind: api.CmdAppend, Box: "a", Data: []byte("x")}},
		{"a1 APPEND a (\\seen Foo \\SEEN $Cub7) \"07-Jul-1996 02:44:25 -0730\" {1}\r\nx", api.Command{Kind: api.CmdAppend, Box: "a", Flags: []string{"$cub7", `\Seen`, "foo"}, Date: " 7-Jul-1996 02:44:25 -0730", Data: []byte("x")}},
		{"a1 APPEND a \" 7-Jul-1996 02:44:25 -0730\" {1}\r\nx", api.Command{Kind: api.CmdAppend, Box: "a", Date: " 7-Jul-1996 02:44:25 -0730", Data: []byte("x")}},
		{"a1 uid store 1:3 +flags.silent (\\seen Foo)", api.Command{Kind: api.CmdStore, Uid: true, Set: []api.Range{rng(1, 3)}, Op: api.AddFlags, Silent: true, Flags: []string{`\Seen`, "foo"}}},
		{"a1 STORE * FLAGS ()", api.Command{Kind: api.CmdStore, Set: []api.Range{{}}, Op: api.SetFlags}},
		{"a1 STORE 1 -Flags \\Draft x \\draft", api.Command{Kind: api.CmdStore, Set: one, Op: api.RemoveFlags, Flags: []string{`\Draft`, "x"}}},
		{"a1 STORE 1 FLAGS.SILENT x", api.Command{Kind: api.CmdStore, Set: one, Op: api.SetFlags, Silent: true, Flags: []string{"x"}}},
		{"a1 COPY 1,4:* inbox", api.Command{Kind: api.CmdCopy, Set: []api.Range{rng(1, 1), rng(4, 0)}, To: "INBOX"}},
		{"a1 UID COPY 1 \"x y\"", api.Command{Kind: api.CmdCopy, Uid: true, Set: one, To: "x y"}},
		{"a1 FETCH 1 all", api.Command{Kind: api.CmdFetch, Set: one, Items: items(2, 4, 3, 5)}},
		{"a1 FETCH 1 Fast", api.Command{Kind: api.CmdFetch, Set: one, Items: items(2, 4, 3)}},
		{"a1 FETCH 1 FULL", api.Command{Kind: api.CmdFetch, Set: one, Items: items(2, 4, 3, 5, 6)}},
		{"a1 FETCH 1 uid", api.Command{Kind: api.CmdFetch, Set: one, Items: items(1)}},
		{"a1 UID FETCH 1 (FLAGS flags RFC822.size INTERNALDATE Envelope BODYSTRUCTURE)", api.Command{Kind: api.CmdFetch, Uid: true, Set: one, Items: items(2, 2, 3, 4, 5, 6)}},
		{"a1 FETCH 1 BODY[]", api.Command{Kind: api.CmdFetch, Set: one, Items: []api.Item{body(nil, api.PartAll)}}},
		{"a1 FETCH 1 (body.peek[1.2.mime]<0.5> BODY[999.text] BODY[1.1.1.1.1.1])", api.Command{Kind: api.CmdFetch, Set: one, Items: []api.Item{
			{Kind: api.ItemBody, Peek: true, Section: api.Section{Path: []int{1, 2}, Kind: api.PartMime}, Count: 5},
			body([]int{999}, api.PartText), body([]int{1, 1, 1, 1, 1, 1}, api.PartAll)}}},
		{"a1 FETCH 1 BODY[HEADER.Fields (From \"X-a\" {2}\r\nTo)]<7.999999999>", api.Command{Kind: api.CmdFetch, Set: one, Items: []api.Item{
			{Kind: api.ItemBody, Section: api.Section{Kind: api.PartFields, Fields: []string{"from", "x-a", "to"}}, From: 7, Count: 999999999}}}},
		{"a1 FETCH 1 (BODY[2.HEADER.FIELDS.NOT (a)] BODY[HEADER] BODY[TEXT])", api.Command{Kind: api.CmdFetch, Set: one, Items: []api.Item{
			body([]int{2}, api.PartNot, "a"), body(nil, api.PartHeader), body(nil, api.PartText)}}},
		{"a1 FETCH 1 (BODY[1.MIME]<0.1> BODY.PEEK[HEADER.FIELDS (" + strings.Repeat("~", 40) + ")])", api.Command{Kind: api.CmdFetch, Set: one, Items: []api.Item{
			{Kind: api.ItemBody, Section: api.Section{Path: []int{1}, Kind: api.PartMime}, Count: 1},
			{Kind: api.ItemBody, Peek: true, Section: api.Section{Kind: api.PartFields, Fields: []string{strings.Repeat("~", 40)}}}}}},
		{"a1 SEARCH ALL answered UNDELETED draft UNFLAGGED Seen", api.Command{Kind: api.CmdSearch, Keys: []api.Key{{Kind: api.KeyAll}, {Kind: api.KeyFlag, S: `\Answered`}, {Kind: api.KeyNoFlag, S: `\Deleted`}, {Kind: api.KeyFlag, S: `\Draft`}, {Kind: api.KeyNoFlag, S: `\Flagged`}, seen}}},
		{"a1 UID SEARCH keyword Foo UNKEYWORD $Cub7", api.Command{Kind: api.CmdSearch, Uid: true, Keys: []api.Key{{Kind: api.KeyFlag, S: "foo"}, {Kind: api.KeyNoFlag, S: "$cub7"}}}},
		{"a1 SEARCH UID 1:* 2,3 *", api.Command{Kind: api.CmdSearch, Keys: []api.Key{{Kind: api.KeyUid, Set: []api.Range{rng(1, 0)}}, {Kind: api.KeySet, Set: []api.Range{rng(2, 2), rng(3, 3)}}, {Kind: api.KeySet, Set: []api.Range{{}}}}}},
		{"a1 SEARCH FROM a TO \"\" SUBJECT {1}\r\n\xff BODY ALL TEXT \"x y\" HEADER X-A b", api.Command{Kind: api.CmdSearch, Keys: []api.Key{{Kind: api.KeyFrom, S: "a"}, {Kind: api.KeyTo}, {Kind: api.KeySubject, S: "\xff"}, {Kind: api.KeyBody, S: "ALL"}, {Kind: api.KeyText, S: "x y"}, {Kind: api.KeyHeader, S: "X-A", T: "b"}}}},
		{"a1 SEARCH LARGER 0 SMALLER 999999999", api.Command{Kind: api.CmdSearch, Keys: []api.Key{{Kind: api.KeyLarger}, {Kind: api.KeySmaller, N: 999999999}}}},
		{"a1 SEARCH NOT seen OR seen (1 ALL) (seen)", api.Command{Kind: api.CmdSearch, Keys: []api.Key{{Kind: api.KeyNot, Keys: []api.Key{seen}}, {Kind: api.KeyOr, Keys: []api.Key{seen, {Kind: api.KeyAnd, Keys: []api.Key{{Kind: api.KeySet, Set: one}, {Kind: api.KeyAll}}}}}, {Kind: api.KeyAnd, Keys: []api.Key{seen}}}}},
	}
}

func TestParseAndPrint(t *testing.T) {
	for _, r := range rows() {
		r.want.Tag = "a1"
		got, e := command.Parse([]byte(r.line))
		if e != api.OK || !same(got, r.want) {
			t.Errorf("P11.1: Parse(%q): %+v, %d", r.line, got, e)
			continue
		}
		b, e := command.Print(got)
		if e != api.OK {
			t.Errorf("P11.2: Print of %q: %d", r.line, e)
			continue
		}
		if back, e := command.Parse(b); e != api.OK || !same(back, r.want) {
			t.Errorf("P11.2: what is printed is parsed again as it was: %q: %q", r.line, b)
		}
	}
}

func TestTags(t *testing.T) {
	for _, tag := range []string{"a", "!", "~", "x.1", strings.Repeat("t", 24)} {
		c, e := command.Parse([]byte(tag + " NOOP"))
		if e != api.OK || c.Tag != tag {
			t.Errorf("P11.1: the tag %q: %+v, %d", tag, c, e)
		}
		if c, e = command.Parse([]byte(tag + " \x80")); e != api.ErrForm || c.Tag != tag {
			t.Errorf("P11.1: the tag %q beside an error: %+v, %d", tag, c, e)
		}
	}
	for _, line := range []string{"a\x80 NOOP", "a(NOOP", "a\tNOOP", strings.Repeat("t", 25), "+", "a%", ""} {
		if c, e := command.Parse([]byte(line)); e == api.OK || c.Tag != "" {
			t.Errorf("P11.1: %q: %+v, %d", line, c, e)
		}
	}
}

func TestForms(t *testing.T) {
	rows := []struct{ line, want string }{
		{"x noop", "x NOOP"},
		{"x login a b", `x LOGIN "a" "b"`},
		{"x select inbox", `x SELECT "INBOX"`},
		{"x create &AOk-", `x CREATE "&AOk-"`},
		{"x uid search keyword $cub7", "x UID SEARCH KEYWORD $cub7"},
		{"x uid fetch 1:* (uid flags rfc822.size internaldate)", "x UID FETCH 1:* (UID FLAGS RFC822.SIZE INTERNALDATE)"},
		{"x uid fetch 7 body.peek[]", "x UID FETCH 7 (BODY.PEEK[])"},
		{"x store 1 +flags \\seen", `x STORE 1 +FLAGS (\Seen)`},
		{"x search unseen 1", "x SEARCH UNSEEN 1"},
		{"x uid expunge 4,3:5", "x UID EXPUNGE 4,3:5"},
		{"x append a (b) {1}\r\nq", "x APPEND \"a\" (b) {1}\r\nq"},
		{"x status a (unseen)", `x STATUS "a" (UNSEEN)`},
	}
	for _, r := range rows {
		c, _ := command.Parse([]byte(r.line))
		if b, e := command.Print(c); e != api.OK || string(b) != r.want {
			t.Errorf("P11.2: %q: %q, %d; want %q", r.line, b, e, r.want)
		}
	}
}

func deep(n int) string { return "a1 SEARCH " + strings.Repeat("NOT ", n-1) + "ALL" }

func TestErrors(t *testing.T) {
	lines := []string{
		"", " ", "a1", "a1 ", " a1 NOOP", "a1  NOOP", "a1 NOOP ", "a1 NOOP x", "a1 FOO", "a1 NO\x80", "a1 \"NOOP\"", "a1 UID", "a1 UID NOOP", "a1 UID 1", "a1 UID UID FETCH 1 UID",
		"+ NOOP", "a+ NOOP", "a* NOOP", "%a NOOP", "(a) NOOP", strings.Repeat("a", 25) + " NOOP", "\"a\" NOOP",
		"a1 LOGIN", "a1 LOGIN a", "a1 LOGIN a b c", "a1 LOGIN (a) b", "a1 LOGIN a  b", "a1 LOGIN {3}\r\nab",
		"a1 SELECT", "a1 SELECT a%", "a1 SELECT \"a//b\"", "a1 SELECT \"\"", "a1 SELECT &AOk", "a1 SELECT {2}\r\n\xc3\xa9", "a1 SELECT " + strings.Repeat("x", 61), "a1 SELECT a b", "a1 CREATE a/", "a1 RENAME a", "a1 RENAME a *",
		"a1 LIST", "a1 LIST \"\"", "a1 LIST & *", "a1 LIST \"\" {1}\r\n\xff",
		"a1 STATUS a", "a1 STATUS a ()", "a1 STATUS a MESSAGES", "a1 STATUS a (MESSAGES ", "a1 STATUS a (FLAGS)", "a1 STATUS a (MESSAGES  UNSEEN)", "a1 STATUS a (MESSAGES )",
		"a1 APPEND a", "a1 APPEND a \"x\"", "a1 APPEND a x", "a1 APPEND a (b c", "a1 APPEND a (b)", "a1 APPEND a (b){1}\r\nx", "a1 APPEND a (b%) {1}\r\nx", "a1 APPEND a (\"b\") {1}\r\nx", "a1 APPEND a \"7-Jul-1996 02:44:25 -0730\" {1}\r\nx", "a1 APPEND a {1}\r\nxy", "a1 APPEND a {1}\r\n\x00", "a1 APPEND a \" 7-Jul-1996 02:44:25 -0730\" (b) {1}\r\nx", "a1 APPEND a ( b) {1}\r\nx",
		"a1 STORE 1 FLAGS", "a1 STORE 1 FLAGS ", "a1 STORE 1 FLAG x", "a1 STORE 1 FLAGS.LOUD x", "a1 STORE 1 FLAGS (x", "a1 STORE 1 FLAGS x ", "a1 STORE 1 FLAGS \\Recent", "a1 STORE 0 FLAGS x", "a1 STORE x FLAGS x", "a1 STORE 1 FLAGS.SILENT", "a1 STORE \"1\" FLAGS x",
		"a1 COPY 1", "a1 COPY a 1", "a1 EXPUNGE 1", "a1 UID EXPUNGE", "a1 UID EXPUNGE x",
		"a1 FETCH 1", "a1 FETCH 1 ()", "a1 FETCH 1 (ALL)", "a1 FETCH 1 ALL FAST", "a1 FETCH 1 FLAGS UID", "a1 FETCH 1 FOO", "a1 FETCH 1 BODY", "a1 FETCH 1 BODY.PEEK", "a1 FETCH 1 BODY []", "a1 FETCH 1 BODY[", "a1 FETCH 1 BODY[0]", "a1 FETCH 1 BODY[1000]", "a1 FETCH 1 BODY[01]", "a1 FETCH 1 BODY[1.]", "a1 FETCH 1 BODY[.1]", "a1 FETCH 1 BODY[MIME]", "a1 FETCH 1 BODY[1.1.1.1.1.1.1]", "a1 FETCH 1 BODY[HEADER.1]", "a1 FETCH 1 BODY[FOO]",
		"a1 FETCH 1 BODY[]<0>", "a1 FETCH 1 BODY[]<0.0>", "a1 FETCH 1 BODY[]<01.1>", "a1 FETCH 1 BODY[]<1.01>", "a1 FETCH 1 BODY[]<1.1000000000>", "a1 FETCH 1 BODY[]<1000000000.1>", "a1 FETCH 1 BODY[]<.1>", "a1 FETCH 1 BODY[]<1.1", "a1 FETCH 1 BODY[] <0.1>", "a1 FETCH 1 BODY[]1.1>", "a1 FETCH 1 BODY[]<1.1.1>", "a1 FETCH 1 FLAGS[]", "a1 FETCH 1 FLAGS<0.1>",
		"a1 FETCH 1 BODY[HEADER.FIELDS]", "a1 FETCH 1 BODY[HEADER.FIELDS ()]", "a1 FETCH 1 BODY[HEADER.FIELDS a]", "a1 FETCH 1 BODY[HEADER.FIELDS (a:)]", "a1 FETCH 1 BODY[HEADER.FIELDS (\"a b\")]", "a1 FETCH 1 BODY[HEADER.FIELDS (\"\")]", "a1 FETCH 1 BODY[HEADER.FIELDS (a\\)]", "a1 FETCH 1 BODY[HEADER.FIELDS (" + strings.Repeat("x", 41) + ")]", "a1 FETCH 1 BODY[TEXT (a)]", "a1 FETCH 1 BODY[HEADER.FIELDS  (a)]", "a1 FETCH 1 BODY[HEADER (a)]",
		"a1 SEARCH", "a1 SEARCH ", "a1 SEARCH FOO", "a1 SEARCH ()", "a1 SEARCH (ALL", "a1 SEARCH NOT", "a1 SEARCH OR ALL", "a1 SEARCH FROM", "a1 SEARCH HEADER a", "a1 SEARCH LARGER x", "a1 SEARCH LARGER 01", "a1 SEARCH LARGER 1000000000", "a1 SEARCH LARGER -1", "a1 SEARCH UID", "a1 SEARCH UID x", "a1 SEARCH KEYWORD", "a1 SEARCH KEYWORD \\Seen", "a1 SEARCH KEYWORD \"x\"", "a1 SEARCH KEYWORD a%", "a1 SEARCH RECENT", "a1 SEARCH ALL ", "a1 SEARCH UNALL", "a1 SEARCH 0", "a1 SEARCH \"ALL\"",
	}
	for _, s := range lines {
		c, e := command.Parse([]byte(s))
		if e == api.OK {
			t.Errorf("P11.1: Parse(%q): %+v", s, c)
		}
		want := api.Command{}
		if s == "a1" || strings.HasPrefix(s, "a1 ") {
			want.Tag = "a1"
		}
		if !same(c, want) {
			t.Errorf("P11.1: Parse(%q): beside an error: %+v", s, c)
		}
	}
}

func TestTooMuch(t *testing.T) {
	many := func(head, one string, n int, tail string) string {
		return "a1 " + head + strings.TrimSuffix(strings.Repeat(one+" ", n), " ") + tail
	}
	keywords := func(n int) string {
		var out []string
		for i := range n {
			out = append(out, "k"+string(rune('a'+i)))
		}
		return strings.Join(out, " ")
	}
	fits := []string{
		many("FETCH 1 (", "UID", 16, ")"), many("STATUS a (", "UNSEEN", 16, ")"), many("SEARCH ", "ALL", 24, ""), many("FETCH 1 BODY[HEADER.FIELDS (", "x", 16, ")]"),
		"a1 STORE 1 FLAGS (" + keywords(16) + " $cub5 $cub6 KA)", deep(6), "a1 SEARCH ((((((ALL))))))"[0:10] + "(((((ALL)))))", many("COPY ", "1", 1, strings.Repeat(",1", 63)+" a"),
	}
	for _, s := range fits {
		if _, e := command.Parse([]byte(s)); e != api.OK {
			t.Errorf("P11.1: Parse(%q): %d", s, e)
		}
	}
	over := []string{
		many("FETCH 1 (", "UID", 17, ")"), many("STATUS a (", "UNSEEN", 17, ")"), many("SEARCH ", "ALL", 25, ""), many("FETCH 1 BODY[HEADER.FIELDS (", "x", 17, ")]"),
		"a1 STORE 1 FLAGS (" + keywords(17) + ")", "a1 APPEND a (" + keywords(17) + ") {1}\r\nx", deep(7), "a1 SEARCH ((((((ALL))))))", many("COPY ", "1", 1, strings.Repeat(",1", 64)+" a"),
		"a1 SEARCH (" + strings.TrimSpace(strings.Repeat("ALL ", 24)) + ")", "a1 APPEND a {16385}\r\n", deep(5000),
	}
	for _, s := range over {
		if c, e := command.Parse([]byte(s)); e != api.ErrLong || c.Kind != 0 || c.Tag != "a1" {
			t.Errorf("P11.1: Parse(%.60q): %d", s, e)
		}
	}
}

func TestPrintRefuses(t *testing.T) {
	all := []api.Key{{Kind: api.KeyAll}}
	around := make([]api.Key, 1)
	around[0] = api.Key{Kind: api.KeyNot, Keys: around}
	bad := []api.Command{
		{}, {Tag: "a"}, {Tag: "a", Kind: -1}, {Tag: "a", Kind: 20}, {Kind: api.CmdNoop}, {Tag: "a b", Kind: api.CmdNoop}, {Tag: "+", Kind: api.CmdNoop}, {Tag: "a", Kind: api.CmdNoop, Box: "x"}, {Tag: "a", Kind: api.CmdNoop, To: "x"}, {Tag: "a", Kind: api.CmdNoop, Set: one}, {Tag: "a", Kind: api.CmdNoop, Items: items(1)}, {Tag: "a", Kind: api.CmdNoop, Op: 1}, {Tag: "a", Kind: api.CmdNoop, Silent: true}, {Tag: "a", Kind: api.CmdNoop, Flags: []string{"x"}}, {Tag: "a", Kind: api.CmdNoop, Date: "x"}, {Tag: "a", Kind: api.CmdNoop, Data: []byte("x")}, {Tag: "a", Kind: api.CmdNoop, Keys: []api.Key{{Kind: api.KeyAll}}}, {Tag: "a", Kind: api.CmdNoop, Uid: true},
		{Tag: "a", Kind: api.CmdSelect}, {Tag: "a", Kind: api.CmdSelect, Box: "inbox"}, {Tag: "a", Kind: api.CmdSelect, Box: "\xff"}, {Tag: "a", Kind: api.CmdSelect, Box: "a", Uid: true}, {Tag: "a", Kind: api.CmdSelect, Box: "a", To: "b"},
		{Tag: "a", Kind: api.CmdLogin, Box: "\x00"}, {Tag: "a", Kind: api.CmdList, To: "\xff"},
		{Tag: "a", Kind: api.CmdStatus, Box: "a"}, {Tag: "a", Kind: api.CmdStatus, Box: "a", Items: items(1)}, {Tag: "a", Kind: api.CmdStatus, Box: "a", Items: []api.Item{{Kind: api.ItemUnseen, Peek: true}}},
		{Tag: "a", Kind: api.CmdAppend, Box: "a", Flags: []string{"A"}}, {Tag: "a", Kind: api.CmdAppend, Box: "a", Flags: []string{"b", "a"}}, {Tag: "a", Kind: api.CmdAppend, Box: "a", Date: "today"}, {Tag: "a", Kind: api.CmdAppend, Box: "a", Date: "07-Jul-1996 02:44:25 -0730"}, {Tag: "a", Kind: api.CmdAppend, Box: "a", Data: []byte{0}}, {Tag: "a", Kind: api.CmdAppend, Box: "a", Data: make([]byte, api.MaxLiteral+1)},
		{Tag: "a", Kind: api.CmdStore, Set: one}, {Tag: "a", Kind: api.CmdStore, Set: one, Op: 4}, {Tag: "a", Kind: api.CmdStore, Op: 1}, {Tag: "a", Kind: api.CmdStore, Set: make([]api.Range, 65), Op: 1},
		{Tag: "a", Kind: api.CmdExpunge, Set: one}, {Tag: "a", Kind: api.CmdExpunge, Uid: true}, {Tag: "a", Kind: api.CmdCopy, Set: one, To: "a%"},
		{Tag: "a", Kind: api.CmdFetch, Set: one}, {Tag: "a", Kind: api.CmdFetch, Set: one, Items: items(8)}, {Tag: "a", Kind: api.CmdFetch, Set: one, Items: make([]api.Item, 17)},
		{Tag: "a", Kind: api.CmdSearch}, {Tag: "a", Kind: api.CmdSearch, Keys: []api.Key{{}}}, {Tag: "a", Kind: api.CmdSearch, Keys: []api.Key{{Kind: api.KeyNot}}}, {Tag: "a", Kind: api.CmdSearch, Keys: []api.Key{{Kind: api.KeyOr, Keys: all}}}, {Tag: "a", Kind: api.CmdSearch, Keys: []api.Key{{Kind: api.KeyAnd}}}, {Tag: "a", Kind: api.CmdSearch, Keys: []api.Key{{Kind: api.KeyFlag, S: `\All`}}}, {Tag: "a", Kind: api.CmdSearch, Keys: []api.Key{{Kind: api.KeyAll, S: "x"}}}, {Tag: "a", Kind: api.CmdSearch, Keys: []api.Key{{Kind: api.KeyLarger, N: -1}}}, {Tag: "a", Kind: api.CmdSearch, Keys: around},
	}
	for i, c := range bad {
		if b, e := command.Print(c); e != api.ErrForm || b != nil {
			t.Errorf("P11.2: row %d: %q, %d", i, b, e)
		}
	}
}

func TestItem(t *testing.T) {
	rows := []struct {
		i    api.Item
		want string
	}{
		{api.Item{Kind: api.ItemUid}, "UID"}, {api.Item{Kind: api.ItemFlags}, "FLAGS"}, {api.Item{Kind: api.ItemSize}, "RFC822.SIZE"}, {api.Item{Kind: api.ItemDate}, "INTERNALDATE"}, {api.Item{Kind: api.ItemEnvelope}, "ENVELOPE"}, {api.Item{Kind: api.ItemStructure}, "BODYSTRUCTURE"},
		{body(nil, api.PartAll), "BODY[]"}, {api.Item{Kind: api.ItemBody, Peek: true}, "BODY[]"}, {api.Item{Kind: api.ItemBody, From: 3, Count: 9}, "BODY[]<3>"}, {api.Item{Kind: api.ItemBody, Count: 9, Peek: true}, "BODY[]<0>"},
		{body([]int{1, 2}, api.PartMime), "BODY[1.2.MIME]"}, {body([]int{3}, api.PartAll), "BODY[3]"}, {body(nil, api.PartHeader), "BODY[HEADER]"}, {body([]int{1}, api.PartText), "BODY[1.TEXT]"},
	}
	for _, r := range rows {
		if s, e := command.Item(r.i); e != api.OK || s != r.want {
			t.Errorf("P11.2: Item(%v): %q, %d; want %q", r.i, s, e, r.want)
		}
	}
	s, e := command.Item(body(nil, api.PartNot, "from", "x-a"))
	if e != api.OK || strings.ReplaceAll(s, `"`, "") != "BODY[HEADER.FIELDS.NOT (from x-a)]" {
		t.Errorf("P11.2: Item: %q, %d", s, e)
	}
	for _, i := range []api.Item{{}, {Kind: 8}, {Kind: -1}, {Kind: api.ItemUid, Peek: true}, {Kind: api.ItemUid, Count: 1}, {Kind: api.ItemBody, From: 1}, {Kind: api.ItemBody, Count: -1}, {Kind: api.ItemBody, Count: 1000000000}, body(nil, api.PartMime), body([]int{0}, 0), body([]int{1, 1, 1, 1, 1, 1, 1}, 0), body(nil, api.PartFields), body(nil, api.PartAll, "a"), body(nil, api.PartFields, "A"), body(nil, 6), body(nil, -1)} {
		if s, e := command.Item(i); e != api.ErrForm || s != "" {
			t.Errorf("P11.2: Item(%v): %q, %d", i, s, e)
		}
	}
}

func TestAnyLineIsAnswered(t *testing.T) {
	r := rand.New(rand.NewSource(11))
	words := []string{"a1 ", "UID ", "FETCH ", "SEARCH ", "STORE ", "1 ", "1:* ", "(", ")", " ", "BODY", "[", "]", "HEADER.FIELDS ", "FLAGS ", "\\Seen", "{1}\r\nx", "\"q\"", "NOT ", "OR ", "ALL", "KEYWORD x", "APPEND ", "inbox", "<0.1>", "LIST ", "\"\""}
	for range 30000 {
		var b strings.Builder
		b.WriteString("a1 ")
		for range r.Intn(9) {
			b.WriteString(words[r.Intn(len(words))])
		}
		c, e := command.Parse([]byte(b.String()))
		if e != api.OK {
			continue
		}
		p, e := command.Print(c)
		if e != api.OK {
			t.Fatalf("P11.2: Print of %q: %d", b.String(), e)
		}
		if back, e := command.Parse(p); e != api.OK || !same(back, c) {
			t.Fatalf("P11.2: %q: %q", b.String(), p)
		}
	}
}
