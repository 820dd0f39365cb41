package remote_test

import (
	"strings"
	"testing"

	"cubby/api"
	"cubby/house"
	"cubby/remote"
)

// says is what a server answers to lines, one behind the other, without the last line's end.
func says(r *remote.Remote, lines ...string) string {
	out := ""
	for _, l := range lines {
		out = string(r.Line([]byte(l)))
	}
	return strings.TrimSuffix(out, "\r\n")
}

func expect(t *testing.T, r *remote.Remote, line, want string) {
	t.Helper()
	if got := says(r, line); got != strings.ReplaceAll(want, "|", "\r\n") {
		t.Errorf("P19.1: %q: %q; want %q", line, got, want)
	}
}

func made() (*remote.Remote, *house.House) {
	h := house.New()
	return remote.New(h), h
}

func TestAheadOfLogin(t *testing.T) {
	r, _ := made()
	for _, s := range []string{"LIST \"\" *", "SELECT INBOX", "CREATE a", "CHECK", "APPEND INBOX {1}\r\nx", "UID FETCH 1 UID", "CLOSE", "EXPUNGE"} {
		expect(t, r, "t "+s, "t BAD bad")
	}
	expect(t, r, "t NOOP", "t OK done")
	expect(t, r, "t CAPABILITY", "* CAPABILITY IMAP4rev1 UIDPLUS|t OK done")
	expect(t, r, "t LOGOUT", "* BYE bye|t OK done")
	expect(t, r, "t LOGIN a b", "t OK done")
	expect(t, r, "t CHECK", "t OK done")
	expect(t, r, "t LOGOUT", "* BYE bye|t OK done")
	expect(t, r, "t CHECK", "t BAD bad")
}

func TestMailboxes(t *testing.T) {
	r, h := made()
	says(r, "t LOGIN a b")
	expect(t, r, "t SELECT INBOX", "* 0 EXISTS|* OK [UIDVALIDITY 1] ok|* OK [UIDNEXT 1] ok|t OK done")
	if r.Selected() != "INBOX" || r.House() != h {
		t.Error("P19.2: Selected, House")
	}
	expect(t, r, "t CREATE &AOk-", "t OK done")
	expect(t, r, "t CREATE &AOk-", "t NO no")
	expect(t, r, "t LIST \"\" *", "* LIST () \"/\" \"INBOX\"|* LIST () \"/\" \"&AOk-\"|t OK done")
	expect(t, r, "t LIST \"x\" &AOk-", "* LIST () \"/\" \"&AOk-\"|t OK done")
	expect(t, r, "t LIST \"\" %", "t OK done")
	expect(t, r, "t EXAMINE none", "t NO no")
	if r.Selected() != "" {
		t.Error("P19.1: a SELECT that is refused selects nothing")
	}
	expect(t, r, "t EXAMINE &AOk-", "* 0 EXISTS|* OK [UIDVALIDITY 2] ok|* OK [UIDNEXT 1] ok|t OK done")
	expect(t, r, "t RENAME &AOk- b", "t OK done")
	if r.Selected() != "" {
		t.Error("P19.1: renamed, it is not selected")
	}
	says(r, "t RENAME b &AOk-")
	if r.Selected() != "" {
		t.Error("P19.1: renamed there and back, it is not selected")
	}
	says(r, "t CREATE other", "t SELECT INBOX")
	expect(t, r, "t RENAME INBOX x", "t NO no")
	expect(t, r, "t DELETE INBOX", "t NO no")
	expect(t, r, "t RENAME other new", "t OK done")
	expect(t, r, "t DELETE new", "t OK done")
	if r.Selected() != "INBOX" {
		t.Error("P19.1: what happens to others plays no part")
	}
	says(r, "t SELECT &AOk-")
	expect(t, r, "t DELETE INBOX", "t NO no")
	expect(t, r, "t DELETE &AOk-", "t OK done")
	if r.Selected() != "" {
		t.Error("P19.1: deleted, it is not selected")
	}
	says(r, "t SELECT INBOX")
	h.Reset("INBOX")
	if r.Selected() != "" {
		t.Error("P19.1: another validity is not selected")
	}
	expect(t, r, "t UID SEARCH ALL", "t BAD bad")
	says(r, "t SELECT INBOX")
	says(r, "t LOGIN a b")
	if r.Selected() != "" {
		t.Error("P19.1: behind LOGIN nothing is selected")
	}
}

func TestMessages(t *testing.T) {
	r, h := made()
	says(r, "t LOGIN a b")
	expect(t, r, "t APPEND none {1}\r\nx", "t NO no")
	expect(t, r, "t APPEND INBOX (\\seen $cub7) \" 7-Jul-1996 02:44:25 -0730\" {3}\r\nx\r\n", "t OK [APPENDUID 1 1] done")
	expect(t, r, "t UID FETCH 1 UID", "t BAD bad")
	says(r, "t APPEND INBOX {0}\r\n", "t APPEND INBOX (a b) {1}\r\ny", "t SELECT INBOX")
	expect(t, r, "t UID FETCH 1:* (BODY.PEEK[] FLAGS UID RFC822.SIZE INTERNALDATE)", "* 1 FETCH (UID 1 BODY[] {3}|x|"+" FLAGS ($cub7 \\Seen) RFC822.SIZE 3 INTERNALDATE \" 7-Jul-1996 02:44:25 -0730\")|* 2 FETCH (UID 2 BODY[] \"\" FLAGS () RFC822.SIZE 0 INTERNALDATE \" 1-Jan-1970 00:00:00 +0000\")|* 3 FETCH (UID 3 BODY[] \"y\" FLAGS (a b) RFC822.SIZE 1 INTERNALDATE \" 1-Jan-1970 00:00:00 +0000\")|t OK done")
	expect(t, r, "t UID FETCH * UID", "* 3 FETCH (UID 3)|t OK done")
	expect(t, r, "t UID FETCH 9 UID", "t OK done")
	for _, s := range []string{"ENVELOPE", "BODYSTRUCTURE", "BODY[TEXT]", "BODY[1]", "BODY[]<0.5>", "(UID BODY[HEADER])"} {
		expect(t, r, "t UID FETCH 1 "+s, "t BAD bad")
		expect(t, r, "t UID FETCH 9 "+s, "t BAD bad")
	}
	expect(t, r, "t UID SEARCH KEYWORD $CUB7", "* SEARCH 1|t OK done")
	expect(t, r, "t UID SEARCH ALL", "* SEARCH 1 2 3|t OK done")
	expect(t, r, "t UID SEARCH SEEN", "* SEARCH 1|t OK done")
	expect(t, r, "t UID SEARCH KEYWORD none", "* SEARCH|t OK done")
	for _, s := range []string{"UNSEEN", "ALL ALL", "1", "NOT SEEN", "(SEEN)"} {
		expect(t, r, "t UID SEARCH "+s, "t BAD bad")
	}
	expect(t, r, "t UID STORE 2:9 +FLAGS (\\Deleted)", "t OK done")
	expect(t, r, "t UID STORE 1 FLAGS (z)", "t OK done")
	expect(t, r, "t UID STORE 9 FLAGS (z)", "t OK done")
	expect(t, r, "t UID STORE * +FLAGS (last)", "t OK done")
	expect(t, r, "t UID SEARCH KEYWORD last", "* SEARCH 3|t OK done")
	expect(t, r, "t UID STORE 3 -FLAGS (last)", "t OK done")
	b, _ := h.Box("INBOX")
	if strings.Join(b.Msgs[0].Flags, " ") != "$cub7 z" || strings.Join(b.Msgs[2].Flags, " ") != `\Deleted a b` {
		t.Errorf("P19.1: STORE: %v", b.Msgs)
	}
	for _, s := range []string{"STORE 1 FLAGS (z)", "SEARCH ALL", "FETCH 1 UID", "EXPUNGE", "COPY 1 INBOX", "UID COPY 1 INBOX", "CLOSE", "STATUS INBOX (UNSEEN)"} {
		expect(t, r, "t "+s, "t BAD bad")
	}
	expect(t, r, "t UID EXPUNGE 1", "t OK done")
	expect(t, r, "t UID EXPUNGE 1:*", "* 3 EXPUNGE|* 2 EXPUNGE|t OK done")
	expect(t, r, "t UID FETCH 1:* UID", "* 1 FETCH (UID 1)|t OK done")
}

func TestStoreStopsAtARefusal(t *testing.T) {
	r, h := made()
	says(r, "t LOGIN a b", "t APPEND INBOX {1}\r\nx", "t APPEND INBOX (a b c d e f g h i j k l m n o p) {1}\r\nx", "t APPEND INBOX {1}\r\nx", "t SELECT INBOX")
	expect(t, r, "t UID STORE 1:3 +FLAGS (z)", "t NO no")
	b, _ := h.Box("INBOX")
	if len(b.Msgs[0].Flags) != 1 || len(b.Msgs[1].Flags) != 16 || len(b.Msgs[2].Flags) != 0 {
		t.Errorf("P19.1: those ahead are done, those behind not: %v", b.Msgs)
	}
}

func TestRefuseAndDrop(t *testing.T) {
	r, h := made()
	r.Refuse(2)
	expect(t, r, "t NOOP", "t NO no")
	expect(t, r, "t LOGIN a b", "t OK done")
	expect(t, r, "t FOO", "t BAD bad")
	expect(t, r, "t CREATE a", "t NO no")
	expect(t, r, "t CREATE a", "t OK done")
	if len(h.Names()) != 2 {
		t.Error("P19.1: what is refused is not done")
	}
	r.Refuse(5)
	r.Refuse(0)
	expect(t, r, "t NOOP", "t OK done")
	r.Refuse(5)
	r.Refuse(-1)
	expect(t, r, "t SELECT a", "* 0 EXISTS|* OK [UIDVALIDITY 2] ok|* OK [UIDNEXT 1] ok|t OK done")
	r.Drop()
	if r.Selected() != "" {
		t.Error("P19.2: Drop")
	}
	expect(t, r, "t CHECK", "t BAD bad")
}

func TestLine(t *testing.T) {
	r, _ := made()
	expect(t, r, "t FOO", "t BAD bad")
	expect(t, r, "", "* BAD bad")
	expect(t, r, "* NOOP", "* BAD bad")
	expect(t, r, "t", "t BAD bad")
	if l := r.Do(api.Command{Kind: api.CmdNoop, Tag: "x"}); len(l) != 1 || l[0].Tag != "x" || l[0].Kind != api.ReplyOk || l[0].Text != "done" {
		t.Errorf("P19.1: Do: %v", l)
	}
	if l := r.Do(api.Command{Kind: -7, Tag: "x"}); len(l) != 1 || l[0].Kind != api.ReplyBad {
		t.Errorf("P19.1: Do: %v", l)
	}
}

func TestNil(t *testing.T) {
	var r *remote.Remote
	r.Refuse(1)
	r.Drop()
	if r.Do(api.Command{Kind: api.CmdNoop}) != nil || r.Line([]byte("t NOOP")) != nil || r.House() != nil || r.Selected() != "" {
		t.Error("P19.2: of nil")
	}
}
