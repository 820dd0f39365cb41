package client_test

import (
	"reflect"
	"strconv"
	"strings"
	"testing"

	"cubby/api"
	"cubby/client"
	"cubby/command"
	"cubby/house"
	"cubby/remote"
)

func plain(v reflect.Value) {
	switch v.Kind() {
	case reflect.Struct:
		for i := range v.NumField() {
			plain(v.Field(i))
		}
	case reflect.Slice:
		if v.Len() == 0 {
			v.SetZero()
		}
		for i := range v.Len() {
			plain(v.Index(i))
		}
	}
}

func same[T any](a, b T) bool {
	plain(reflect.ValueOf(&a).Elem())
	plain(reflect.ValueOf(&b).Elem())
	return reflect.DeepEqual(a, b)
}

func set(from, to uint32) []api.Range { return []api.Range{{From: from, To: to}} }

func TestSay(t *testing.T) {
	rows := []struct {
		w    api.Word
		want api.Command
	}{
		{api.Word{Kind: api.SayLogin}, api.Command{Kind: api.CmdLogin, Box: "cubby", To: "cubby"}},
		{api.Word{Kind: api.SayList}, api.Command{Kind: api.CmdList, To: "*"}},
		{api.Word{Kind: api.SaySelect, Box: "\u00e9"}, api.Command{Kind: api.CmdSelect, Box: "\u00e9"}},
		{api.Word{Kind: api.SayCreate, Box: "a"}, api.Command{Kind: api.CmdCreate, Box: "a"}},
		{api.Word{Kind: api.SayDelete, Box: "a"}, api.Command{Kind: api.CmdDelete, Box: "a"}},
		{api.Word{Kind: api.SayRename, Box: "a", To: "b"}, api.Command{Kind: api.CmdRename, Box: "a", To: "b"}},
		{api.Word{Kind: api.SayAppend, Box: "a", Flags: []string{"B", `\seen`}, Date: " 7-Jul-1996 02:44:25 -0730", Body: []byte("x\r\n"), Token: 7}, api.Command{Kind: api.CmdAppend, Box: "a", Flags: []string{"$cub7", `\Seen`, "b"}, Date: " 7-Jul-1996 02:44:25 -0730", Data: []byte("x\r\n")}},
		{api.Word{Kind: api.SayStore, Ups: []uint32{3, 4, 9}, Op: api.AddFlags, Flags: []string{"X", "a"}}, api.Command{Kind: api.CmdStore, Uid: true, Set: []api.Range{{From: 3, To: 4}, {From: 9, To: 9}}, Op: api.AddFlags, Flags: []string{"a", "x"}}},
		{api.Word{Kind: api.SayStore, Ups: []uint32{1}, Op: api.SetFlags}, api.Command{Kind: api.CmdStore, Uid: true, Set: set(1, 1), Op: api.SetFlags}},
		{api.Word{Kind: api.SayRemove, Ups: []uint32{1, 2}}, api.Command{Kind: api.CmdExpunge, Uid: true, Set: set(1, 2)}},
		{api.Word{Kind: api.SayLook, Token: 12}, api.Command{Kind: api.CmdSearch, Uid: true, Keys: []api.Key{{Kind: api.KeyFlag, S: "$cub12"}}}},
		{api.Word{Kind: api.SayAll}, api.Command{Kind: api.CmdFetch, Uid: true, Set: set(1, 0), Items: []api.Item{{Kind: api.ItemUid}, {Kind: api.ItemFlags}, {Kind: api.ItemSize}, {Kind: api.ItemDate}}}},
		{api.Word{Kind: api.SayBody, Ups: []uint32{5}}, api.Command{Kind: api.CmdFetch, Uid: true, Set: set(5, 5), Items: []api.Item{{Kind: api.ItemBody, Peek: true}}}},
	}
	for _, r := range rows {
		b, e := client.Say(r.w, "t1")
		line, ended := strings.CutSuffix(string(b), "\r\n")
		if e != api.OK || !ended {
			t.Errorf("P26.1: Say(%+v): %q, %d", r.w, b, e)
			continue
		}
		r.want.Tag = "t1"
		if c, e := command.Parse([]byte(line)); e != api.OK || !same(c, r.want) {
			t.Errorf("P26.1: Say(%+v): %q", r.w, b)
		}
	}
	if b, _ := client.Say(api.Word{Kind: api.SayLook, Token: 7}, "t1"); string(b) != "t1 UID SEARCH KEYWORD $cub7\r\n" {
		t.Errorf("P26.1: the example: %q", b)
	}
}

func TestSayRefuses(t *testing.T) {
	var odd []uint32
	for i := range uint32(65) {
		odd = append(odd, 2*i+1)
	}
	for i, w := range []api.Word{
		{}, {Kind: 13}, {Kind: -1}, {Kind: api.SaySelect}, {Kind: api.SaySelect, Box: "inbox"}, {Kind: api.SayCreate, Box: "\xff"}, {Kind: api.SayRename, Box: "a"},
		{Kind: api.SayAppend, Box: "a", Flags: []string{"a b"}}, {Kind: api.SayAppend, Box: "a", Date: "x"}, {Kind: api.SayAppend, Box: "a", Body: []byte{0}}, {Kind: api.SayAppend},
		{Kind: api.SayStore, Op: 1}, {Kind: api.SayStore, Op: 1, Ups: []uint32{2, 1}}, {Kind: api.SayStore, Op: 1, Ups: []uint32{0}}, {Kind: api.SayStore, Op: 1, Ups: []uint32{2, 2}}, {Kind: api.SayStore, Ups: []uint32{1}}, {Kind: api.SayStore, Op: 4, Ups: []uint32{1}}, {Kind: api.SayStore, Op: 1, Ups: []uint32{1}, Flags: []string{"a b"}}, {Kind: api.SayStore, Op: 1, Ups: odd},
		{Kind: api.SayRemove}, {Kind: api.SayRemove, Ups: odd}, {Kind: api.SayBody}, {Kind: api.SayBody, Ups: []uint32{1, 2}}, {Kind: api.SayBody, Ups: []uint32{0}},
	} {
		if b, e := client.Say(w, "t1"); e != api.ErrForm || b != nil {
			t.Errorf("P26.1: row %d: %q, %d", i, b, e)
		}
	}
	if _, e := client.Say(api.Word{Kind: api.SayRemove, Ups: odd[:64]}, "t1"); e != api.OK {
		t.Errorf("P26.1: as many ranges as may be: %d", e)
	}
	for _, tag := range []string{"", "a b", "+", "*"} {
		if _, e := client.Say(api.Word{Kind: api.SayList}, tag); e != api.ErrForm {
			t.Errorf("P26.1: the tag %q: %d", tag, e)
		}
	}
}

func TestHear(t *testing.T) {
	all := "* 1 FETCH (UID 4 FLAGS (\\Seen $cub7) RFC822.SIZE 12 INTERNALDATE \"today\")\r\n"
	rows := []struct {
		kind int
		said string
		want api.Heard
	}{
		{api.SayLogin, "t1 OK done\r\n", api.Heard{OK: true}},
		{api.SayLogin, "t1 NO no\r\n", api.Heard{No: true}},
		{api.SayLogin, "t1 BAD bad\r\n", api.Heard{No: true}},
		{api.SayAppend, "t1 OK [APPENDUID 7 9] done\r\n", api.Heard{OK: true, Valid: 7, Up: 9}},
		{api.SayAppend, "t1 OK [APPENDUID 7 9 1] done\r\n", api.Heard{OK: true}},
		{api.SayAppend, "t1 OK [APPENDUID 07 9] done\r\n", api.Heard{OK: true}},
		{api.SayAppend, "t1 OK [APPENDUID 7 4294967296] done\r\n", api.Heard{OK: true}},
		{api.SayAppend, "t1 OK [UIDVALIDITY 7] done\r\n", api.Heard{OK: true}},
		{api.SayAppend, "t1 NO [APPENDUID 7 9] no\r\n", api.Heard{No: true}},
		{api.SayAppend, "* OK [APPENDUID 1 2] x\r\nt1 OK done\r\n", api.Heard{OK: true}},
		{api.SayAppend, "t1 OK [APPENDUID 7] done\r\n", api.Heard{OK: true}},
		{api.SayAppend, "t1 OK [APPENDUID 7 ] done\r\n", api.Heard{OK: true}},
		{api.SayAppend, "t1 OK [APPENDUID x 9] done\r\n", api.Heard{OK: true}},
		{api.SayAppend, "t1 OK [APPENDUID 7  9] done\r\n", api.Heard{OK: true}},
		{api.SayAppend, "t1 OK [7 9] done\r\n", api.Heard{OK: true}},
		{api.SaySelect, "* OK [5] x\r\n* OK [UIDVALIDITY x] x\r\nt1 OK done\r\n", api.Heard{OK: true}},
		{api.SayAll, "* STATUS \"a\" (UID 4 FLAGS () RFC822.SIZE 1 INTERNALDATE \"d\")\r\nt1 OK done\r\n", api.Heard{OK: true}},
		{api.SayBody, "* STATUS \"a\" (BODY[] \"x\")\r\nt1 OK done\r\n", api.Heard{OK: true}},
		{api.SayBody, "* 1 FETCH (UID 7)\r\n* 2 FETCH (BODY[] \"x\")\r\nt1 OK done\r\n", api.Heard{OK: true, Body: []byte("x"), Has: true}},
		{api.SayCreate, "t1 OK [APPENDUID 7 9] done\r\n", api.Heard{OK: true}},
		{api.SaySelect, "* 0 EXISTS\r\n* OK [UIDVALIDITY 3] ok\r\n* OK [UIDNEXT 9] ok\r\nt1 OK done\r\n", api.Heard{OK: true, Valid: 3}},
		{api.SaySelect, "* OK [UIDVALIDITY 3] ok\r\n* OK [UIDVALIDITY 4294967295] ok\r\n* NO [UIDVALIDITY 9] ok\r\nt1 OK done\r\n", api.Heard{OK: true, Valid: 1<<32 - 1}},
		{api.SaySelect, "t1 NO no\r\n", api.Heard{No: true}},
		{api.SayLogin, "* OK [UIDVALIDITY 3] ok\r\nt1 OK done\r\n", api.Heard{OK: true}},
		{api.SayList, "* LIST () \"/\" \"a\"\r\n* LIST () \"/\" \"&AOk-\"\r\n* LIST () \"/\" \"&AOk\"\r\nt1 OK done\r\n", api.Heard{OK: true, Names: []string{"a", "\u00e9"}}},
		{api.SaySelect, "* LIST () \"/\" \"a\"\r\nt1 OK done\r\n", api.Heard{OK: true}},
		{api.SayLook, "* SEARCH 3\r\n* SEARCH 4 9\r\nt1 OK done\r\n", api.Heard{OK: true, Ups: []uint32{4, 9}}},
		{api.SayLook, "* SEARCH 3\r\n* SEARCH\r\nt1 OK done\r\n", api.Heard{OK: true}},
		{api.SayAll, "* SEARCH 3\r\nt1 OK done\r\n", api.Heard{OK: true}},
		{api.SayAll, all + "t1 OK done\r\n", api.Heard{OK: true, List: []api.Seen{{Up: 4, Flags: []string{`\Seen`, "$cub7"}, Date: "today", Size: 12}}}},
		{api.SayAll, "* 1 FETCH (UID 4)\r\n* 2 FETCH (INTERNALDATE \"d\" X 1 UID 5 UID 6 RFC822.SIZE 0 FLAGS ())\r\nt1 NO no\r\n", api.Heard{No: true, List: []api.Seen{{Up: 5, Date: "d"}}}},
		{api.SayAll, "* 1 FETCH (UID 04 FLAGS () RFC822.SIZE 1 INTERNALDATE \"d\")\r\n* 1 FETCH (UID 4 FLAGS a RFC822.SIZE 1 INTERNALDATE \"d\")\r\n* 1 FETCH (UID 4 FLAGS (a  b) RFC822.SIZE 1 INTERNALDATE \"d\")\r\n* 1 FETCH (UID 4 FLAGS (\"a\") RFC822.SIZE 1 INTERNALDATE \"d\")\r\n* 1 FETCH (UID 4 FLAGS () RFC822.SIZE 4294967296 INTERNALDATE \"d\")\r\n* 1 FETCH (UID x FLAGS () RFC822.SIZE 1 INTERNALDATE \"d\")\r\nt1 OK done\r\n", api.Heard{OK: true}},
		{api.SayBody, all + "t1 OK done\r\n", api.Heard{OK: true}},
		{api.SayBody, all + "* 1 FETCH (UID 4 BODY[] {3}\r\na\r\n BODY[] \"x\")\r\n* 1 FETCH (BODY[] \"y\")\r\nt1 OK done\r\n", api.Heard{OK: true, Body: []byte("a\r\n"), Has: true}},
		{api.SayBody, "* 1 FETCH (BODY[] \"\")\r\nt1 OK done\r\n", api.Heard{OK: true, Has: true}},
		{api.SayAll, "* 1 FETCH (BODY[] \"y\")\r\nt1 OK done\r\n", api.Heard{OK: true}},
		{api.SayLogin, "+ ready\r\nt2 OK done\r\n* OK x\r\nt1 OK done\r\n", api.Heard{OK: true}},
		{99, "t1 OK done\r\n", api.Heard{OK: true}},
	}
	for i, r := range rows {
		if h, e := client.Hear(api.Word{Kind: r.kind}, "t1", []byte(r.said)); e != api.OK || !same(h, r.want) {
			t.Errorf("P26.2: row %d: %+v, %d; want %+v", i, h, e, r.want)
		}
		for cut := range len(r.said) {
			if h, e := client.Hear(api.Word{Kind: r.kind}, "t1", []byte(r.said[:cut])); e != api.ErrShort || !same(h, api.Heard{}) {
				t.Fatalf("P26.2: row %d: %d bytes of it: %d", i, cut, e)
			}
		}
		if h, e := client.Hear(api.Word{Kind: r.kind}, "t1", []byte(r.said+"* OK x\r\n")); e != api.ErrForm || !same(h, api.Heard{}) {
			t.Errorf("P26.2: row %d: bytes behind it: %d", i, e)
		}
	}
	for _, s := range []string{"junk\r\n", "* FOO\r\nt1 OK done\r\n", "t1 OK done\n"} {
		if h, e := client.Hear(api.Word{Kind: api.SayLogin}, "t1", []byte(s)); e != api.ErrForm || !same(h, api.Heard{}) {
			t.Errorf("P26.2: %q: %d", s, e)
		}
	}
	if _, e := client.Hear(api.Word{Kind: api.SayLogin}, "t1", []byte("t2 OK done\r\n")); e != api.ErrShort {
		t.Errorf("P26.2: another tag: %d", e)
	}
}

func TestWhatRemoteAnswersIsHeard(t *testing.T) {
	h := house.New()
	r := remote.New(h)
	n := 0
	talk := func(w api.Word) api.Heard {
		t.Helper()
		n++
		tag := "s" + strconv.Itoa(n)
		b, e := client.Say(w, tag)
		if e != api.OK {
			t.Fatalf("P26.1: Say(%+v): %d", w, e)
		}
		got, e := client.Hear(w, tag, r.Line(b[:len(b)-2]))
		if e != api.OK {
			t.Fatalf("P26.2: Hear of %+v: %d", w, e)
		}
		return got
	}
	check := func(w api.Word, want api.Heard) {
		t.Helper()
		if got := talk(w); !same(got, want) {
			t.Errorf("%+v: %+v; want %+v", w, got, want)
		}
	}
	check(api.Word{Kind: api.SayList}, api.Heard{No: true})
	check(api.Word{Kind: api.SayLogin}, api.Heard{OK: true})
	check(api.Word{Kind: api.SayCreate, Box: "\u00e9"}, api.Heard{OK: true})
	check(api.Word{Kind: api.SayList}, api.Heard{OK: true, Names: []string{"INBOX", "\u00e9"}})
	check(api.Word{Kind: api.SaySelect, Box: "\u00e9"}, api.Heard{OK: true, Valid: 2})
	check(api.Word{Kind: api.SayLook, Token: 5}, api.Heard{OK: true})
	check(api.Word{Kind: api.SayAppend, Box: "\u00e9", Body: []byte("hi"), Token: 5}, api.Heard{OK: true, Valid: 2, Up: 1})
	check(api.Word{Kind: api.SayLook, Token: 5}, api.Heard{OK: true, Ups: []uint32{1}})
	check(api.Word{Kind: api.SayStore, Ups: []uint32{1}, Op: api.AddFlags, Flags: []string{`\Deleted`}}, api.Heard{OK: true})
	check(api.Word{Kind: api.SayAll}, api.Heard{OK: true, List: []api.Seen{{Up: 1, Flags: []string{"$cub5", `\Deleted`}, Date: " 1-Jan-1970 00:00:00 +0000", Size: 2}}})
	check(api.Word{Kind: api.SayBody, Ups: []uint32{1}}, api.Heard{OK: true, Body: []byte("hi"), Has: true})
	check(api.Word{Kind: api.SayRemove, Ups: []uint32{1}}, api.Heard{OK: true})
	check(api.Word{Kind: api.SayRename, Box: "\u00e9", To: "b"}, api.Heard{OK: true})
	check(api.Word{Kind: api.SayDelete, Box: "b"}, api.Heard{OK: true})
	check(api.Word{Kind: api.SayDelete, Box: "b"}, api.Heard{No: true})
}
