package session_test

import (
	"math/rand"
	"reflect"
	"slices"
	"strconv"
	"strings"
	"testing"

	"cubby/api"
	"cubby/command"
	"cubby/image"
	"cubby/queue"
	"cubby/reply"
	"cubby/session"
	"cubby/view"
)

const noDate = " 1-Jan-1970 00:00:00 +0000"

func plain(v reflect.Value) {
	switch v.Kind() {
	case reflect.Struct:
		for i := range v.NumField() {
			plain(v.Field(i))
		}
	case reflect.Slice:
		if v.Len() == 0 {
			v.SetZero()
		}
		for i := range v.Len() {
			plain(v.Index(i))
		}
	}
}

func same[T any](a, b T) bool {
	plain(reflect.ValueOf(&a).Elem())
	plain(reflect.ValueOf(&b).Elem())
	return reflect.DeepEqual(a, b)
}

// day is a state with sessions.
type day struct {
	t     *testing.T
	s     api.State
	seats []api.Seat
	wants []api.Want
}

func begin(t *testing.T) *day { return &day{t: t, s: queue.Begin(), seats: make([]api.Seat, 3)} }

func (d *day) says(who int, line string) string {
	d.t.Helper()
	c, e := command.Parse([]byte("t " + line))
	if e != api.OK {
		d.t.Fatalf("%q: %d", line, e)
	}
	seat, s, replies, wants := session.Do(d.seats[who], d.s, c)
	if !queue.Right(s) || !view.Right(seat.Sight) {
		d.t.Fatalf("%q: what is answered is right", line)
	}
	d.seats[who], d.s, d.wants = seat, s, wants
	out := ""
	for _, r := range replies {
		b, e := reply.Print(r)
		if e != api.OK {
			d.t.Fatalf("%q: a reply that cannot be printed: %+v", line, r)
		}
		out += string(b)
	}
	return strings.TrimSuffix(out, "\r\n")
}

func (d *day) expect(who int, line, want string) {
	d.t.Helper()
	if got := d.says(who, line); got != strings.ReplaceAll(want, "|", "\r\n") {
		d.t.Errorf("%q: %q; want %q", line, got, strings.ReplaceAll(want, "|", "\r\n"))
	}
}

func (d *day) in(who int, box string) {
	d.t.Helper()
	if d.seats[who].At == api.SeatNew {
		d.says(who, "LOGIN a b")
	}
	d.says(who, "SELECT "+box)
}

// messages puts n messages into INBOX.
func (d *day) messages(n int) {
	for i := range n {
		d.s, _, _ = queue.Append(d.s, "INBOX", nil, "", []byte("Subject: s"+strconv.Itoa(i+1)+"\r\n\r\nb"+strconv.Itoa(i+1)))
	}
}

func TestGreetAndBad(t *testing.T) {
	if r := session.Greet(); !same(r, api.Reply{Tag: "*", Kind: api.ReplyOk, Text: "ready"}) {
		t.Errorf("P25.1: Greet: %+v", r)
	}
	if l := session.Bad(api.Command{}); len(l) != 1 || !same(l[0], api.Reply{Tag: "*", Kind: api.ReplyBad, Text: "bad"}) {
		t.Errorf("P25.1: Bad: %+v", l)
	}
	if l := session.Bad(api.Command{Tag: "x"}); len(l) != 1 || l[0].Tag != "x" {
		t.Errorf("P25.1: Bad: %+v", l)
	}
}

func TestSeats(t *testing.T) {
	d := begin(t)
	for _, s := range []string{"SELECT INBOX", "CREATE a", "LIST \"\" *", "STATUS INBOX (UNSEEN)", "CHECK", "FETCH 1 UID", "APPEND INBOX {1}\r\nx"} {
		d.expect(0, s, "t BAD bad")
	}
	d.expect(0, "CAPABILITY", "* CAPABILITY IMAP4rev1 UIDPLUS|t OK done")
	d.expect(0, "NOOP", "t OK done")
	d.expect(0, "LOGIN a b", "t OK done")
	if d.seats[0].At != api.SeatIn {
		t.Error("P25.2: LOGIN")
	}
	d.expect(0, "LOGIN a b", "t BAD bad")
	for _, s := range []string{"CHECK", "CLOSE", "EXPUNGE", "SEARCH ALL", "FETCH 1 UID", "STORE 1 FLAGS x", "COPY 1 INBOX", "UID EXPUNGE 1"} {
		d.expect(0, s, "t BAD bad")
	}
	d.expect(0, "SELECT INBOX", `* FLAGS (\Answered \Deleted \Draft \Flagged \Seen)|* 0 EXISTS|* OK [UIDVALIDITY 1] ok|* OK [UIDNEXT 1] ok|t OK [READ-WRITE] done`)
	if d.seats[0].At != api.SeatBox || d.seats[0].Sight.Read || d.seats[0].Sight.Valid != 1 {
		t.Error("P25.2: SELECT")
	}
	d.expect(0, "EXAMINE INBOX", `* FLAGS (\Answered \Deleted \Draft \Flagged \Seen)|* 0 EXISTS|* OK [UIDVALIDITY 1] ok|* OK [UIDNEXT 1] ok|t OK [READ-ONLY] done`)
	if !d.seats[0].Sight.Read {
		t.Error("P25.2: EXAMINE")
	}
	d.expect(0, "LOGIN a b", "t BAD bad")
	d.expect(0, "SELECT none", "t NO no")
	if !same(d.seats[0], api.Seat{At: api.SeatIn}) {
		t.Errorf("P25.2: a SELECT that is refused: %+v", d.seats[0])
	}
	d.in(0, "INBOX")
	d.expect(0, "CHECK", "t OK done")
	d.expect(0, "LOGOUT", "* BYE bye|t OK done")
	if !same(d.seats[0], api.Seat{At: api.SeatOut}) {
		t.Errorf("P25.2: LOGOUT: %+v", d.seats[0])
	}
	for _, s := range []string{"NOOP", "CREATE a", "LOGIN a b"} {
		d.expect(0, s, "")
	}
	if len(d.s.Queue) != 0 || d.seats[0].At != api.SeatOut {
		t.Error("P25.2: behind LOGOUT nothing changes")
	}
}

func TestMailboxes(t *testing.T) {
	d := begin(t)
	d.says(0, "LOGIN a b")
	d.expect(0, "CREATE a", "t OK done")
	d.expect(0, "CREATE a", "t NO [ALREADYEXISTS] no")
	d.expect(0, "CREATE &AOk-/x", "t OK done")
	d.expect(0, "DELETE none", "t NO [NONEXISTENT] no")
	d.expect(0, "DELETE INBOX", "t NO no")
	d.expect(0, "RENAME INBOX x", "t NO no")
	d.expect(0, "RENAME none x", "t NO [NONEXISTENT] no")
	d.expect(0, "RENAME a &AOk-/x", "t NO [ALREADYEXISTS] no")
	d.expect(0, "RENAME a a/b", "t OK done")
	d.expect(0, "LIST \"\" *", `* LIST () "/" "INBOX"|* LIST () "/" "a/b"|* LIST () "/" "&AOk-/x"|t OK done`)
	d.expect(0, "DELETE a/b", "t OK done")
	d.expect(0, "LIST \"\" a*", "t OK done")
	if len(d.s.Queue) != 4 {
		t.Errorf("P25.2: what is queued: %+v", d.s.Queue)
	}
	for i := range api.MaxBoxes - 2 {
		d.expect(0, "CREATE m"+strconv.Itoa(i), "t OK done")
	}
	d.expect(0, "CREATE more", "t NO [LIMIT] no")
}

func TestList(t *testing.T) {
	d := begin(t)
	d.says(0, "LOGIN a b")
	for _, n := range []string{"a", "a/b", "a/b/c", "ab", "INBOX/x", "&AOk-"} {
		d.says(0, "CREATE "+n)
	}
	rows := []struct{ line, want string }{
		{`"" ""`, ""}, {`a ""`, ""}, {`"" %`, "INBOX a ab &AOk-"}, {`"" *`, "INBOX INBOX/x a a/b a/b/c ab &AOk-"}, {`a %`, "a ab"}, {`a/ %`, "a/b"}, {`a/ *`, "a/b a/b/c"}, {`"" a/%/c`, "a/b/c"}, {`"" a%c`, ""}, {`"" a*c`, "a/b/c"}, {`"" %b`, "ab"}, {`"" *b`, "a/b ab"},
		{`"" inbox`, "INBOX"}, {`in bOx`, "INBOX"}, {`"" inbox%`, ""}, {`"" INBOX%`, "INBOX"}, {`"" inbox/x`, ""}, {`"" A`, ""}, {`"" &AOk-`, "&AOk-"}, {`"" "%%%**%%a"`, "a"}, {`"" /a`, ""}, {`"" %/%`, "INBOX/x a/b"},
	}
	for _, r := range rows {
		want := ""
		for _, n := range strings.Fields(r.want) {
			want += `* LIST () "/" "` + n + `"|`
		}
		d.expect(0, "LIST "+r.line, want+"t OK done")
	}
	d.expect(0, "LIST \"\" \""+strings.Repeat("*%", 1500)+"x\"", `* LIST () "/" "INBOX/x"|t OK done`)
}

func TestStatusAndAppend(t *testing.T) {
	d := begin(t)
	d.says(0, "LOGIN a b")
	d.expect(0, "STATUS none (UNSEEN)", "t NO [NONEXISTENT] no")
	d.expect(0, "APPEND none {1}\r\nx", "t NO [TRYCREATE] no")
	d.says(0, "CREATE &AOk-")
	d.expect(0, "APPEND &AOk- (\\Seen $cub7 b) {1}\r\nx", "t OK [APPENDUID 2 1] done")
	d.expect(0, "APPEND &AOk- \" 7-Jul-1996 02:44:25 -0730\" {0}\r\n", "t OK [APPENDUID 2 2] done")
	d.expect(0, "STATUS &AOk- (UNSEEN MESSAGES UIDNEXT UIDVALIDITY UNSEEN)", `* STATUS "&AOk-" (UNSEEN 1 MESSAGES 2 UIDNEXT 3 UIDVALIDITY 2 UNSEEN 1)|t OK done`)
	h := d.s.Image.Folders[1].List[0]
	if strings.Join(h.Flags, " ") != `\Seen b` {
		t.Errorf("P25.2: APPEND: %+v", h)
	}
	d.s.Image.Folders[1].Next = 1<<32 - 1
	d.expect(0, "APPEND &AOk- {1}\r\nx", "t NO [LIMIT] no")
	d.messages(api.MaxMsgs)
	d.expect(0, "APPEND INBOX {1}\r\nx", "t NO [LIMIT] no")
}

func TestFetch(t *testing.T) {
	d := begin(t)
	d.messages(2)
	d.s, _, _ = queue.Append(d.s, "INBOX", []string{`\Seen`, "k"}, " 7-Jul-1996 02:44:25 -0730", []byte("From: a@b\r\n\r\nx\r\n"))
	d.in(0, "INBOX")
	d.expect(0, "FETCH 3 (UID FLAGS RFC822.SIZE INTERNALDATE UID)", `* 3 FETCH (UID 3 FLAGS (\Seen k) RFC822.SIZE 16 INTERNALDATE " 7-Jul-1996 02:44:25 -0730" UID 3)|t OK done`)
	d.expect(0, "UID FETCH 2:3 (FLAGS UID)", `* 2 FETCH (UID 2 FLAGS ())|* 3 FETCH (UID 3 FLAGS (\Seen k))|t OK done`)
	d.expect(0, "FETCH 9 FLAGS", "t OK done")
	d.expect(0, "FETCH * (ENVELOPE BODYSTRUCTURE)", `* 3 FETCH (ENVELOPE (NIL NIL ((NIL NIL "a" "b")) ((NIL NIL "a" "b")) ((NIL NIL "a" "b")) NIL NIL NIL NIL NIL) BODYSTRUCTURE ("text" "plain" NIL NIL NIL "7bit" 3 1))|t OK done`)
	d.expect(0, "FETCH 1 (BODY.PEEK[TEXT] BODY.PEEK[1]<1.5> BODY.PEEK[]<0.4> BODY.PEEK[2])", "* 1 FETCH (BODY[TEXT] \"b1\" BODY[1]<1> \"1\" BODY[]<0> \"Subj\" BODY[2] NIL)|t OK done")
	if len(d.s.Queue) != 3 {
		t.Error("P25.3: a PEEK marks nothing")
	}
	d.expect(0, "FETCH 1 BODY[TEXT]", "* 1 FETCH (BODY[TEXT] \"b1\")|* 1 FETCH (UID 1 FLAGS (\\Seen))|t OK done")
	d.expect(0, "FETCH 2:3 (FLAGS BODY[TEXT])", "* 2 FETCH (FLAGS (\\Seen) BODY[TEXT] \"b2\")|* 3 FETCH (FLAGS (\\Seen k) BODY[TEXT] {3}|x|)|t OK done")
	if q := d.s.Queue; len(q) != 5 || q[4].Kind != api.DoStore || !slices.Equal(q[4].Uids, []uint32{2}) || q[4].Op != api.AddFlags || !slices.Equal(q[4].Flags, []string{`\Seen`}) {
		t.Errorf("P25.3: what is read is stored: %+v", q)
	}
	d.expect(0, "FETCH 1:3 BODY[]", "* 1 FETCH (BODY[] {17}|Subject: s1||b1)|* 2 FETCH (BODY[] {17}|Subject: s2||b2)|* 3 FETCH (BODY[] {16}|From: a@b||x|)|t OK done")
	if len(d.s.Queue) != 5 {
		t.Error("P25.3: what is seen is not marked again")
	}
}

func TestFetchUsesAndReadOnly(t *testing.T) {
	d := begin(t)
	d.messages(3)
	d.says(0, "LOGIN a b")
	d.says(0, "EXAMINE INBOX")
	d.expect(0, "FETCH 2 BODY[TEXT]", "* 2 FETCH (BODY[TEXT] \"b2\")|t OK done")
	f := d.s.Image.Folders[0]
	if len(d.s.Queue) != 3 || d.s.Image.Clock != 1 || f.List[1].Used != 1 || f.List[0].Used != 0 {
		t.Errorf("P25.3: what is read is used: %+v", f)
	}
	d.says(0, "FETCH 1:3 FLAGS")
	if d.s.Image.Clock != 1 {
		t.Error("P25.3: what asks for no bytes uses nothing")
	}
	d.says(0, "FETCH 3,1 ENVELOPE")
	if f = d.s.Image.Folders[0]; f.List[0].Used != 2 || f.List[2].Used != 3 {
		t.Errorf("P25.3: of each of the messages, in order: %+v", f)
	}
}

func TestUnavailable(t *testing.T) {
	d := begin(t)
	d.s.Image = image.Merge(d.s.Image, "INBOX", 5, []api.Seen{{Up: 4, Date: noDate, Size: 2}, {Up: 5, Date: noDate, Size: 2}, {Up: 6, Date: noDate, Size: 2}})
	d.s.Image = image.Fill(d.s.Image, api.Want{Valid: 1, Uid: 2}, []byte("hi"))
	d.in(0, "INBOX")
	before := d.s
	for _, item := range []string{"ENVELOPE", "BODYSTRUCTURE", "BODY[]", "BODY.PEEK[]", "(FLAGS BODY[1])"} {
		d.expect(0, "FETCH 1:3 "+item, "t NO [UNAVAILABLE] no")
		if !same(d.wants, []api.Want{{Valid: 1, Uid: 1}, {Valid: 1, Uid: 3}}) || !same(d.s, before) {
			t.Errorf("P25.3: wanted: %v", d.wants)
		}
	}
	d.expect(0, "FETCH 1 BODY.PEEK[]", "t NO [UNAVAILABLE] no")
	if !same(d.wants, []api.Want{{Valid: 1, Uid: 1}}) {
		t.Errorf("P25.3: wanted: %v", d.wants)
	}
	d.expect(0, "FETCH 2 BODY.PEEK[]<0.1>", "* 2 FETCH (BODY[]<0> \"h\")|t OK done")
	d.expect(0, "UID FETCH 2 BODY.PEEK[]", "* 2 FETCH (UID 2 BODY[] \"hi\")|t OK done")
	if len(d.wants) != 0 {
		t.Error("P25.3: nothing is wanted")
	}
	d.expect(0, "FETCH 1:3 (FLAGS RFC822.SIZE)", "* 1 FETCH (FLAGS () RFC822.SIZE 2)|* 2 FETCH (FLAGS () RFC822.SIZE 2)|* 3 FETCH (FLAGS () RFC822.SIZE 2)|t OK done")
	d.expect(0, "COPY 2:3 INBOX", "t NO [UNAVAILABLE] no")
	if !same(d.wants, []api.Want{{Valid: 1, Uid: 3}}) {
		t.Errorf("P25.3: wanted: %v", d.wants)
	}
	d.expect(0, "COPY 3 none", "t NO [TRYCREATE] no")
	if len(d.wants) != 0 {
		t.Error("P25.3: nothing is wanted")
	}
	d.expect(0, "SEARCH BODY \"\"", "* SEARCH 2|t OK done")
}

func TestStore(t *testing.T) {
	d := begin(t)
	d.messages(3)
	d.in(0, "INBOX")
	d.in(1, "INBOX")
	d.expect(0, "STORE 1:2 +FLAGS (x)", "* 1 FETCH (UID 1 FLAGS (x))|* 2 FETCH (UID 2 FLAGS (x))|t OK done")
	d.expect(0, "STORE 2:3 FLAGS.SILENT (y)", "t OK done")
	d.expect(0, "NOOP", "t OK done")
	d.expect(0, "STORE 2 -FLAGS (y)", "* 2 FETCH (UID 2 FLAGS ())|t OK done")
	d.expect(0, "STORE 2 -FLAGS (y)", "t OK done")
	d.expect(0, "UID STORE 9 FLAGS (y)", "t OK done")
	d.expect(1, "STORE 1 +FLAGS.SILENT (z)", "* 3 FETCH (UID 3 FLAGS (y))|t OK done")
	d.expect(0, "NOOP", "* 1 FETCH (UID 1 FLAGS (x z))|t OK done")
	d.says(0, "STORE 1 FLAGS (a b c d e f g h i j k l m n o p)")
	n := len(d.s.Queue)
	d.expect(0, "STORE 1:2 +FLAGS (q)", "t NO [LIMIT] no")
	if len(d.s.Queue) != n {
		t.Error("what is refused changes no state")
	}
	d.says(0, "EXAMINE INBOX")
	d.expect(0, "STORE 1 FLAGS (y)", "t NO no")
	d.expect(0, "EXPUNGE", "t NO no")
	d.expect(0, "UID EXPUNGE 1", "t NO no")
	for len(d.s.Queue) < api.MaxQueue {
		d.s, _, _ = queue.Store(d.s, "INBOX", []uint32{3}, api.AddFlags, nil)
	}
	d.says(0, "SELECT INBOX")
	d.expect(0, "STORE 1 FLAGS (y)", "t NO [LIMIT] no")
	d.expect(0, "CREATE x", "t NO [LIMIT] no")
	d.expect(0, "EXPUNGE", "t NO [LIMIT] no")
	d.expect(0, "COPY 1 INBOX", "t NO [LIMIT] no")
	d.expect(0, "FETCH 2 (FLAGS BODY[TEXT])", "* 2 FETCH (FLAGS () BODY[TEXT] \"b2\")|t OK done")
	d.expect(0, "CLOSE", "t OK done")
}

func TestExpungeAndClose(t *testing.T) {
	d := begin(t)
	d.messages(5)
	d.in(0, "INBOX")
	d.in(1, "INBOX")
	d.says(0, "STORE 2,4,5 +FLAGS.SILENT (\\Deleted)")
	d.expect(0, "UID EXPUNGE 1:2", "* 2 EXPUNGE|t OK done")
	d.expect(1, "FETCH 2 (FLAGS UID)", "* 4 FETCH (UID 4 FLAGS (\\Deleted))|* 5 FETCH (UID 5 FLAGS (\\Deleted))|t OK done")
	d.expect(1, "FETCH 1:3 UID", "* 1 FETCH (UID 1)|* 3 FETCH (UID 3)|t OK done")
	d.expect(1, "SEARCH ALL", "* SEARCH 1 3 4 5|t OK done")
	d.expect(1, "STORE 2 +FLAGS (x)", "t OK done")
	d.expect(1, "UID SEARCH ALL", "* SEARCH 1 3 4 5|* 2 EXPUNGE|t OK done")
	d.expect(0, "EXPUNGE", "* 4 EXPUNGE|* 3 EXPUNGE|t OK done")
	d.expect(0, "EXPUNGE", "t OK done")
	d.expect(1, "CHECK", "* 4 EXPUNGE|* 3 EXPUNGE|t OK done")
	d.says(1, "STORE 2 +FLAGS (\\Deleted)")
	d.messages(1)
	d.says(0, "STATUS INBOX (UNSEEN)")
	d.s, _, _ = queue.Store(d.s, "INBOX", []uint32{6}, api.AddFlags, []string{`\Deleted`})
	d.expect(1, "CLOSE", "t OK done")
	if !same(d.seats[1], api.Seat{At: api.SeatIn}) {
		t.Errorf("P25.3: CLOSE: %+v", d.seats[1])
	}
	d.expect(0, "NOOP", "* 2 EXPUNGE|* 2 FETCH (UID 6 FLAGS (\\Deleted))|t OK done")
	d.says(1, "EXAMINE INBOX")
	n := len(d.s.Queue)
	d.expect(1, "CLOSE", "t OK done")
	if len(d.s.Queue) != n {
		t.Error("P25.3: CLOSE of what may not be written")
	}
}

func TestSearch(t *testing.T) {
	d := begin(t)
	d.messages(4)
	d.in(0, "INBOX")
	d.says(0, "STORE 1 FLAGS.SILENT (\\Deleted)")
	d.says(0, "EXPUNGE")
	d.expect(0, "SEARCH ALL", "* SEARCH 1 2 3|t OK done")
	d.expect(0, "UID SEARCH ALL", "* SEARCH 2 3 4|t OK done")
	d.expect(0, "SEARCH * UID *", "* SEARCH 3|t OK done")
	d.expect(0, "UID SEARCH 1:2 BODY b", "* SEARCH 2 3|t OK done")
	d.expect(0, "SEARCH SUBJECT S3", "* SEARCH 2|t OK done")
	d.expect(0, "SEARCH SEEN", "* SEARCH|t OK done")
	d.messages(1)
	d.expect(0, "SEARCH ALL", "* SEARCH 1 2 3|* 4 EXISTS|t OK done")
	d.expect(0, "SEARCH *", "* SEARCH 4|t OK done")
}

func TestCopy(t *testing.T) {
	d := begin(t)
	d.messages(4)
	d.in(0, "INBOX")
	d.says(0, "CREATE a")
	d.expect(0, "COPY 1,3:4 a", "t OK [COPYUID 2 1,3:4 1:3] done")
	d.expect(0, "UID COPY 9 a", "t OK done")
	d.expect(0, "UID COPY 2 INBOX", "* 5 EXISTS|t OK [COPYUID 1 2 5] done")
	d.says(0, "EXAMINE INBOX")
	d.expect(0, "COPY 1 a", "t OK [COPYUID 2 1 4] done")
	for len(d.s.Image.Folders[1].List) < api.MaxMsgs {
		d.s.Image, _, _ = image.Add(d.s.Image, "a", nil, "", nil)
	}
	d.expect(0, "COPY 1 a", "t NO [LIMIT] no")
	d.expect(0, "COPY 1 none", "t NO [TRYCREATE] no")
}

func TestOthersAreTold(t *testing.T) {
	d := begin(t)
	d.messages(2)
	d.in(0, "INBOX")
	d.in(1, "INBOX")
	d.expect(1, "APPEND INBOX {1}\r\nx", "* 3 EXISTS|t OK [APPENDUID 1 3] done")
	d.expect(0, "LOGIN a b", "* 3 EXISTS|t BAD bad")
	d.says(1, "STORE 1 +FLAGS (x)")
	d.expect(0, "CREATE INBOX", "* 1 FETCH (UID 1 FLAGS (x))|t NO [ALREADYEXISTS] no")
	d.says(1, "STORE 1 +FLAGS (y)")
	d.expect(0, "SELECT INBOX", `* FLAGS (\Answered \Deleted \Draft \Flagged \Seen)|* 3 EXISTS|* OK [UIDVALIDITY 1] ok|* OK [UIDNEXT 4] ok|t OK [READ-WRITE] done`)
	d.expect(0, "NOOP", "t OK done")
	seat, l := session.Turn(api.Seat{At: api.SeatIn}, d.s, true)
	if len(l) != 0 || seat.At != api.SeatIn {
		t.Error("P25.1: Turn without a sight")
	}
	d.says(1, "APPEND INBOX {1}\r\nx")
	seat, l = session.Turn(d.seats[0], d.s, true)
	if len(l) != 1 || l[0].Kind != api.ReplyExist || l[0].N != 4 || len(seat.Sight.Uids) != 4 || len(d.seats[0].Sight.Uids) != 3 {
		t.Errorf("P25.1: Turn: %+v", l)
	}
}

func TestTheFolderIsGone(t *testing.T) {
	d := begin(t)
	d.says(0, "LOGIN a b")
	d.says(0, "CREATE a")
	d.says(0, "APPEND a {1}\r\nx")
	d.in(0, "a")
	d.in(1, "a")
	d.says(1, "RENAME a b")
	d.expect(0, "STORE 1 +FLAGS (x)", "* 1 FETCH (UID 1 FLAGS (x))|t OK done")
	if e := d.s.Queue[len(d.s.Queue)-1]; e.Box != "b" {
		t.Errorf("P25.3: the folder is that of the validity: %+v", e)
	}
	d.says(1, "CREATE a")
	d.says(1, "APPEND a {1}\r\nx")
	d.expect(0, "FETCH 1 UID", "* 1 FETCH (UID 1)|t OK done")
	d.says(1, "DELETE b")
	d.expect(0, "NOOP", "t OK done")
	d.expect(0, "FETCH 1 UID", "t OK done")
	d.expect(0, "FETCH 1 BODY[]", "t OK done")
	d.expect(0, "SEARCH ALL", "* SEARCH|t OK done")
	d.expect(0, "EXPUNGE", "t OK done")
	d.expect(0, "CHECK", "t OK done")
	d.expect(0, "CLOSE", "t OK done")
	if d.seats[0].At != api.SeatIn {
		t.Error("P25.3: CLOSE")
	}
}

// What a client may do, in any order, is answered; and what is wrong or refused changes no state.
func TestAnyOrder(t *testing.T) {
	lines := []string{"NOOP", "CHECK", "SELECT INBOX", "EXAMINE INBOX", "SELECT a", "CREATE a", "DELETE a", "RENAME a b", "RENAME b a", "LIST \"\" *", "STATUS a (MESSAGES UNSEEN)", "APPEND INBOX {1}\r\nx", "APPEND a (\\Deleted) {1}\r\ny", "CLOSE", "EXPUNGE", "UID EXPUNGE 1:*", "SEARCH UNSEEN", "UID SEARCH 1:* NOT DELETED", "FETCH 1:* (FLAGS UID)", "UID FETCH * BODY[]", "FETCH 1 ENVELOPE", "STORE 1:* +FLAGS (\\Deleted)", "UID STORE 2:3 FLAGS.SILENT (x)", "COPY 1:2 a", "UID COPY * INBOX", "LOGIN a b"}
	for seed := int64(0); seed < 40; seed++ {
		r := rand.New(rand.NewSource(seed))
		d := begin(t)
		for range 120 {
			who, line := r.Intn(3), lines[r.Intn(len(lines))]
			if r.Intn(10) == 0 {
				d.s = queue.Done(d.s, uint32(r.Intn(2)*r.Intn(1000)))
			}
			before := d.s
			got := d.says(who, line)
			last := got[strings.LastIndex(got, "\n")+1:]
			if !strings.HasPrefix(last, "t OK") && !strings.HasPrefix(last, "t NO") && !strings.HasPrefix(last, "t BAD") {
				t.Fatalf("%q: %q", line, got)
			}
			if !strings.HasPrefix(last, "t OK") && !same(before, d.s) {
				t.Fatalf("what is wrong or refused changes no state: %q: %q", line, got)
			}
		}
	}
}

func TestWrongSeats(t *testing.T) {
	for _, seat := range []api.Seat{{At: -1}, {At: 9}, {At: api.SeatBox, Sight: api.Sight{Valid: 1, Uids: []uint32{1, 1}}}, {At: api.SeatBox}} {
		for kind := -1; kind < 22; kind++ {
			session.Do(seat, queue.Begin(), api.Command{Tag: "t", Kind: kind, Set: []api.Range{{From: 1}}, Items: []api.Item{{Kind: kind}}, Keys: []api.Key{{Kind: kind}}})
			session.Do(seat, api.State{}, api.Command{Kind: kind})
		}
		session.Turn(seat, api.State{}, true)
	}
}
