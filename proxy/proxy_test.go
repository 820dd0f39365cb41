package proxy_test

import (
	"reflect"
	"slices"
	"strconv"
	"strings"
	"testing"

	"cubby/api"
	"cubby/command"
	"cubby/disk"
	"cubby/house"
	"cubby/image"
	"cubby/proxy"
	"cubby/queue"
	"cubby/remote"
)

func plain(v reflect.Value) {
	switch v.Kind() {
	case reflect.Struct:
		for i := range v.NumField() {
			plain(v.Field(i))
		}
	case reflect.Slice:
		if v.Len() == 0 {
			v.SetZero()
		}
		for i := range v.Len() {
			plain(v.Index(i))
		}
	}
}

func same[T any](a, b T) bool {
	plain(reflect.ValueOf(&a).Elem())
	plain(reflect.ValueOf(&b).Elem())
	return reflect.DeepEqual(a, b)
}

// day is a proxy with its disk and its server.
type day struct {
	t *testing.T
	p *proxy.Proxy
	d *disk.Disk
	h *house.House
	r *remote.Remote
}

func begin(t *testing.T, sectors, budget int) *day {
	t.Helper()
	d, _ := disk.New(sectors)
	h := house.New()
	r := remote.New(h)
	p, e := proxy.New(d, r, budget)
	if e != api.OK || p == nil {
		t.Fatalf("P28.1: New: %d", e)
	}
	return &day{t, p, d, h, r}
}

func (x *day) do(m api.Move, want api.Errno) {
	x.t.Helper()
	if e := x.p.Do(m); e != want {
		x.t.Fatalf("P28.2: %+v: %d; want %d", m, e, want)
	}
	if !queue.Right(x.p.State()) {
		x.t.Fatalf("P28.2: %+v: the state is not right", m)
	}
}

func (x *day) move(kind, n int) {
	x.t.Helper()
	x.do(api.Move{Kind: kind, N: n}, api.OK)
}

func (x *day) bytes(who int, s string) {
	x.t.Helper()
	x.do(api.Move{Kind: api.MoveBytes, Who: who, Bytes: []byte(s)}, api.OK)
}

func (x *day) out(who int, want string) {
	x.t.Helper()
	want = strings.ReplaceAll(want, "|", "\r\n")
	if want != "" {
		want += "\r\n"
	}
	if got := string(x.p.Out(who)); got != want {
		x.t.Fatalf("P28.2: told %q; want %q", got, want)
	}
}

// says sends a line, and expects what is told.
func (x *day) says(who int, line, want string) {
	x.t.Helper()
	x.bytes(who, line+"\r\n")
	x.out(who, want)
}

// in opens a session, logs in, and selects a mailbox.
func (x *day) in(who int, box string) {
	x.t.Helper()
	x.do(api.Move{Kind: api.MoveOpen, Who: who}, api.OK)
	x.bytes(who, "t LOGIN a b\r\n")
	if box != "" {
		x.bytes(who, "t SELECT "+box+"\r\n")
	}
	x.p.Out(who)
}

func (x *day) edit(box, line string) {
	x.t.Helper()
	c, e := command.Parse([]byte("e " + line))
	if e != api.OK {
		x.t.Fatal(line, e)
	}
	x.do(api.Move{Kind: api.MoveEdit, Box: box, Command: c}, api.OK)
}

// steps does n steps with upstream.
func (x *day) steps(n int) {
	x.t.Helper()
	for range n {
		x.move(api.MoveSync, 0)
	}
}

// settle does steps till the queue is empty, nothing is wanted, and a round was made.
func (x *day) settle() {
	x.t.Helper()
	for n := 0; len(x.p.State().Queue) > 0 || len(x.p.Line().Wants) > 0 || !x.p.Line().In; n++ {
		if n > 2000 {
			x.t.Fatal("W5: it does not settle")
		}
		x.steps(1)
	}
	x.steps(1)
	for n := 0; x.p.Line().Phase != 0; n++ {
		if n > 200 {
			x.t.Fatal("W5: a round does not end")
		}
		x.steps(1)
	}
}

func TestNew(t *testing.T) {
	d, _ := disk.New(64)
	r := remote.New(house.New())
	if p, e := proxy.New(nil, r, -1); p != nil || e != api.ErrNil {
		t.Errorf("P28.1: a nil disk: %d", e)
	}
	if p, e := proxy.New(d, nil, -1); p != nil || e != api.ErrNil {
		t.Errorf("P28.1: a nil server: %d", e)
	}
	for _, n := range []int{-1, 1<<30 + 1} {
		if p, e := proxy.New(d, r, n); p != nil || e != api.ErrArg {
			t.Errorf("P28.1: a budget of %d: %d", n, e)
		}
	}
	d.Crash(nil)
	if p, e := proxy.New(d, r, 0); p != nil || e != api.ErrDown {
		t.Errorf("P28.1: a disk that is down: %d", e)
	}
	x := begin(t, 256, 1<<30)
	if !same(x.p.State(), queue.Begin()) || !same(x.p.Line(), api.Line{}) || x.p.Said() != 0 || x.p.Down() {
		t.Error("P28.1: New")
	}
	if s, ok := x.p.Seat(0); ok || !same(s, api.Seat{}) {
		t.Error("P28.1: Seat of none")
	}
}

func TestNil(t *testing.T) {
	for _, p := range []*proxy.Proxy{nil} {
		for kind := -1; kind < 13; kind++ {
			if p.Do(api.Move{Kind: kind}) != api.ErrNil {
				t.Error("P28.2: Do of nil")
			}
		}
		if p.Out(0) != nil || !same(p.State(), api.State{}) || !same(p.Line(), api.Line{}) || p.Said() != 0 || p.Down() {
			t.Error("P28.1: of nil")
		}
		if _, ok := p.Seat(0); ok {
			t.Error("P28.1: Seat of nil")
		}
	}
}

func TestSessions(t *testing.T) {
	x := begin(t, 1<<14, 4096)
	for _, kind := range []int{api.MoveOpen, api.MoveBytes, api.MoveClose} {
		for _, who := range []int{-1, api.MaxSessions} {
			x.do(api.Move{Kind: kind, Who: who}, api.ErrArg)
		}
	}
	for _, kind := range []int{0, -1, 12} {
		x.do(api.Move{Kind: kind}, api.ErrArg)
	}
	x.do(api.Move{Kind: api.MoveBytes, Who: 7}, api.ErrNone)
	x.do(api.Move{Kind: api.MoveClose, Who: 7}, api.ErrNone)
	x.do(api.Move{Kind: api.MoveOpen, Who: 7}, api.OK)
	x.do(api.Move{Kind: api.MoveOpen, Who: 7}, api.ErrTwice)
	x.out(7, "* OK ready")
	x.out(7, "")
	x.bytes(7, "a LOGI")
	x.out(7, "")
	x.bytes(7, "N u p\r\nb NOOP\r\nc FOO\r\n\r\nd LOGIN {1}\r\n")
	x.out(7, "a OK done|b OK done|c BAD bad|* BAD bad|+ ready")
	x.bytes(7, "u x\r\n")
	x.out(7, "d BAD bad")
	x.bytes(7, strings.Repeat("x", api.MaxLine+5)+"\r\ne APPEND INBOX {99999}\r\nf NOOP\r\n")
	x.out(7, "* BAD bad|* BAD bad|f OK done")
	if s, ok := x.p.Seat(7); !ok || s.At != api.SeatIn {
		t.Error("P28.1: Seat")
	}
	x.says(7, "g LOGOUT", "* BYE bye|g OK done")
	x.says(7, "h CREATE a", "")
	if s, _ := x.p.Seat(7); s.At != api.SeatOut || len(x.p.State().Queue) != 0 {
		t.Error("P28.2: behind LOGOUT")
	}
	x.do(api.Move{Kind: api.MoveClose, Who: 7}, api.OK)
	if _, ok := x.p.Seat(7); ok || x.p.Out(7) != nil {
		t.Error("P28.2: MoveClose")
	}
	x.do(api.Move{Kind: api.MoveOpen, Who: 7}, api.OK)
	x.out(7, "* OK ready")
	x.bytes(7, "i LOGOUT\r\nj NOOP\r\n")
	x.out(7, "* BYE bye|i OK done")
}

func TestOneSessionTellsTheOther(t *testing.T) {
	x := begin(t, 1<<14, 4096)
	x.in(0, "INBOX")
	x.in(1, "INBOX")
	x.says(0, "a APPEND INBOX (\\Seen) {1}\r\nx", "+ ready|* 1 EXISTS|a OK [APPENDUID 1 1] done")
	x.says(1, "b NOOP", "* 1 EXISTS|b OK done")
	x.says(1, "c FETCH 1 (FLAGS BODY[])", "* 1 FETCH (FLAGS (\\Seen) BODY[] \"x\")|c OK done")
}

func TestWithoutALink(t *testing.T) {
	x := begin(t, 1<<14, 4096)
	x.do(api.Move{Kind: api.MoveSync}, api.ErrLink)
	x.move(api.MoveLink, 0)
	x.do(api.Move{Kind: api.MoveSync}, api.ErrLink)
	x.move(api.MoveLink, 1)
	x.steps(1)
	if !x.p.Line().In || x.p.Said() != 1 {
		t.Error("P28.2: MoveSync")
	}
	x.h.Create("a")
	x.steps(1)
	if !slices.Equal(x.p.Line().Todo, []string{"INBOX", "a"}) {
		t.Errorf("P28.2: a round: %+v", x.p.Line())
	}
	x.move(api.MoveLink, 0)
	if l := x.p.Line(); l.On || l.In || len(l.Todo) != 0 {
		t.Errorf("P28.2: MoveLink: %+v", l)
	}
	if len(x.r.Line([]byte("q CHECK"))) == 0 || !strings.HasPrefix(string(x.r.Line([]byte("q CHECK"))), "q BAD") {
		t.Error("P28.2: upstream drops")
	}
}

func TestWrittenBack(t *testing.T) {
	x := begin(t, 1<<14, 4096)
	x.in(0, "INBOX")
	x.bytes(0, "a CREATE w\r\na APPEND w (k) {1}\r\nx\r\na APPEND INBOX {1}\r\ny\r\na COPY 1 w\r\na STORE 1 +FLAGS (\\Deleted)\r\na EXPUNGE\r\n")
	n := len(x.p.State().Queue)
	x.move(api.MoveLink, 1)
	x.settle()
	if n != 6 || len(x.p.State().Dead) > 0 {
		t.Fatalf("W1: %d entries, %+v", n, x.p.State().Dead)
	}
	w, _ := x.h.Box("w")
	i, _ := x.h.Box("INBOX")
	if len(i.Msgs) != 0 || i.Next != 2 || len(w.Msgs) != 2 || string(w.Msgs[0].Body) != "x" || !slices.Equal(w.Msgs[0].Flags, []string{"$cub2", "k"}) || string(w.Msgs[1].Body) != "y" {
		t.Errorf("W1: %+v %+v", i, w)
	}
}

func TestWhatOthersChangeIsShown(t *testing.T) {
	x := begin(t, 1<<14, 4096)
	x.in(0, "INBOX")
	x.edit("", "APPEND INBOX (k $cub9) {3}\r\nabc")
	x.edit("", "CREATE z")
	x.edit("", "CREATE z")
	x.edit("INBOX", "UID STORE * +FLAGS (\\Flagged)")
	x.edit("none", "UID STORE * +FLAGS (\\Flagged)")
	b, _ := x.h.Box("INBOX")
	if !slices.Equal(b.Msgs[0].Flags, []string{`\Flagged`, "k"}) {
		t.Errorf("P28.2: MoveEdit: %+v", b)
	}
	x.move(api.MoveLink, 1)
	x.settle()
	x.says(0, "a NOOP", "* 1 EXISTS|a OK done")
	x.says(0, "b FETCH 1 (FLAGS RFC822.SIZE)", "* 1 FETCH (FLAGS (\\Flagged k) RFC822.SIZE 3)|b OK done")
	x.says(0, "c FETCH 1 BODY.PEEK[]", "c NO [UNAVAILABLE] no")
	if !same(x.p.Line().Wants, []api.Want{{Valid: 1, Uid: 1}}) {
		t.Errorf("P28.2: what is wanted is Line's: %+v", x.p.Line())
	}
	x.settle()
	x.says(0, "d FETCH 1 BODY.PEEK[]", "* 1 FETCH (BODY[] \"abc\")|d OK done")
	x.says(0, "e LIST \"\" z", "* LIST () \"/\" \"z\"|e OK done")
	x.edit("INBOX", "UID STORE 1 +FLAGS (\\Deleted)")
	x.edit("INBOX", "UID EXPUNGE 1:*")
	x.edit("", "DELETE z")
	x.settle()
	x.says(0, "f LIST \"\" *", "* LIST () \"/\" \"INBOX\"|* 1 EXPUNGE|f OK done")
	for _, line := range []string{"RENAME a b", "NOOP", "STORE 1 FLAGS (x)", "EXPUNGE", "FETCH 1 UID", "UID COPY 1 a"} {
		c, _ := command.Parse([]byte("e " + line))
		x.do(api.Move{Kind: api.MoveEdit, Box: "INBOX", Command: c}, api.ErrArg)
	}
	x.do(api.Move{Kind: api.MoveEdit}, api.ErrArg)
}

func TestReset(t *testing.T) {
	x := begin(t, 1<<14, 4096)
	x.in(0, "")
	x.bytes(0, "a APPEND INBOX {1}\r\nx\r\n")
	x.move(api.MoveLink, 1)
	x.settle()
	x.bytes(0, "b SELECT INBOX\r\nb STORE 1 +FLAGS (k)\r\n")
	x.do(api.Move{Kind: api.MoveReset, Box: "none"}, api.ErrNone)
	x.do(api.Move{Kind: api.MoveReset, Box: "INBOX"}, api.OK)
	x.edit("", "APPEND INBOX {3}\r\nnew")
	x.settle()
	s := x.p.State()
	if len(s.Dead) != 1 || s.Dead[0].Why != api.DeadEpoch {
		t.Errorf("W4: the dead: %+v", s.Dead)
	}
	f := s.Image.Folders[image.Find(s.Image, "INBOX")]
	if f.Valid != 2 || f.Up != 2 || len(f.List) != 1 || f.List[0].Size != 3 {
		t.Errorf("W4: behind a reset nothing of what was there is shown: %+v", f)
	}
}

func TestRefusals(t *testing.T) {
	x := begin(t, 1<<14, 4096)
	x.in(0, "")
	x.bytes(0, "a CREATE a\r\n")
	x.move(api.MoveLink, 1)
	x.steps(1)
	x.move(api.MoveNo, 1)
	x.steps(1)
	if x.p.Line().Phase != 0 || len(x.p.State().Queue) != 1 {
		t.Errorf("P28.2: MoveNo: %+v", x.p.Line())
	}
	x.steps(1)
	x.move(api.MoveNo, 1)
	x.steps(1)
	if s := x.p.State(); len(s.Dead) != 1 || s.Dead[0].Why != api.DeadRefused || image.Find(s.Image, "a") >= 0 {
		t.Errorf("W4: the dead: %+v", s.Dead)
	}
}

func TestCut(t *testing.T) {
	x := begin(t, 1<<14, 4096)
	x.in(0, "")
	x.bytes(0, "a APPEND INBOX {1}\r\nx\r\n")
	x.move(api.MoveLink, 1)
	x.steps(3)
	x.move(api.MoveCut, 0)
	x.move(api.MoveLink, 1)
	x.steps(1)
	if b, _ := x.h.Box("INBOX"); len(b.Msgs) != 1 || x.p.Line().On || x.p.Said() != 4 || len(x.p.State().Queue) != 1 {
		t.Errorf("P28.2: MoveCut: %+v, %+v", b, x.p.Line())
	}
	x.do(api.Move{Kind: api.MoveSync}, api.ErrLink)
	x.move(api.MoveLink, 1)
	x.settle()
	b, _ := x.h.Box("INBOX")
	if s := x.p.State(); len(b.Msgs) != 1 || s.Image.Folders[0].List[0].Up != 1 || len(s.Dead) != 0 {
		t.Errorf("W4: upstream is told nothing twice: %+v", b)
	}
}

func TestAWordThatCannotBeSaid(t *testing.T) {
	x := begin(t, 1<<16, 4096)
	x.in(0, "")
	for range 130 {
		x.bytes(0, "a APPEND INBOX {1}\r\nx\r\n")
	}
	x.move(api.MoveLink, 1)
	x.settle()
	x.bytes(0, "a SELECT INBOX\r\n")
	for i := 1; i < 130; i += 2 {
		x.bytes(0, "a STORE "+strconv.Itoa(i)+" +FLAGS.SILENT (\\Deleted)\r\n")
	}
	x.settle()
	x.bytes(0, "a EXPUNGE\r\na CREATE b\r\n")
	said := x.p.Said()
	x.steps(2)
	if x.p.Said() != said+1 || x.p.Line().Phase != 0 {
		t.Errorf("P28.2: nothing is said: %d, %d", x.p.Said()-said, x.p.Line().Phase)
	}
	if s := x.p.State(); len(s.Dead) != 1 || s.Dead[0].Why != api.DeadRefused || s.Dead[0].Entry.Kind != api.DoExpunge || len(s.Queue) != 1 {
		t.Errorf("P28.2: the first entry is killed: %+v", s.Dead)
	}
	x.settle()
	if names := x.h.Names(); !slices.Equal(names, []string{"INBOX", "b"}) {
		t.Errorf("P28.2: %q", names)
	}
}

func TestNoRoom(t *testing.T) {
	x := begin(t, 370, 4096)
	x.in(0, "INBOX")
	big := strings.Repeat("x", 16384)
	x.says(0, "a APPEND INBOX {16384}\r\n"+big, "+ ready|a NO [LIMIT] no")
	if seat, _ := x.p.Seat(0); len(seat.Sight.Uids) != 0 || len(x.p.State().Queue) != 0 {
		t.Error("P28.2: the seat and the state stay")
	}
	x.says(0, "b APPEND INBOX {1}\r\nx", "+ ready|* 1 EXISTS|b OK [APPENDUID 1 1] done")
}

func TestEvict(t *testing.T) {
	x := begin(t, 1<<14, 5)
	x.in(0, "INBOX")
	x.bytes(0, "a APPEND INBOX {4}\r\naaaa\r\na APPEND INBOX {4}\r\nbbbb\r\na APPEND INBOX {4}\r\ncccc\r\n")
	has := func() string {
		out := ""
		for _, h := range x.p.State().Image.Folders[0].List {
			if h.Has {
				out += string(h.Body[:1])
			}
		}
		return out
	}
	if has() != "abc" {
		t.Error("P28.2: what upstream has not is not let go")
	}
	x.p.Out(0)
	x.move(api.MoveLink, 1)
	x.says(0, "b FETCH 2 BODY.PEEK[]", "* 2 FETCH (BODY[] \"bbbb\")|b OK done")
	x.settle()
	if has() != "c" {
		t.Errorf("P28.2: what is clean goes, as long as there is no room: %q", has())
	}
	x.says(0, "c FETCH 1 BODY.PEEK[]", "c NO [UNAVAILABLE] no")
	x.settle()
	if has() != "a" {
		t.Errorf("P28.2: what is filled is used: %q", has())
	}
	x.says(0, "d FETCH 1 BODY.PEEK[]", "* 1 FETCH (BODY[] \"aaaa\")|d OK done")
}

func TestFalls(t *testing.T) {
	x := begin(t, 1<<14, 4096)
	x.in(0, "INBOX")
	x.in(1, "")
	x.bytes(0, "a CREATE a\r\n")
	x.out(0, "a OK done")
	x.move(api.MoveLink, 1)
	x.steps(1)
	x.move(api.MoveArm, 1)
	x.do(api.Move{Kind: api.MoveBytes, Who: 0, Bytes: []byte("b NOOP\r\nc CREATE b\r\nd CREATE c\r\n")}, api.ErrDown)
	x.out(0, "b OK done")
	if !x.p.Down() {
		t.Error("P28.2: the proxy is down")
	}
	for _, kind := range []int{api.MoveOpen, api.MoveBytes, api.MoveClose, api.MoveSync} {
		x.do(api.Move{Kind: kind}, api.ErrDown)
	}
	x.do(api.Move{Kind: api.MoveOpen, Who: -1}, api.ErrArg)
	x.move(api.MoveLink, 1)
	x.move(api.MoveCut, 0)
	x.edit("", "CREATE u")
	said := x.p.Said()
	x.do(api.Move{Kind: api.MoveFall}, api.OK)
	if x.p.Down() || !same(x.p.Line(), api.Line{}) || x.p.Said() != said {
		t.Errorf("P28.2: MoveFall: %+v", x.p.Line())
	}
	if _, ok := x.p.Seat(0); ok {
		t.Error("P28.2: all sessions are gone")
	}
	if s := x.p.State(); len(s.Queue) != 1 || image.Find(s.Image, "a") < 0 || image.Find(s.Image, "b") >= 0 {
		t.Errorf("P28.3: %+v", s)
	}
	x.move(api.MoveLink, 1)
	x.settle()
	if !slices.Equal(x.h.Names(), []string{"INBOX", "a", "u"}) {
		t.Errorf("W1: %q", x.h.Names())
	}
	x.do(api.Move{Kind: api.MoveFall, Keep: []int{64, 64}}, api.OK)
	x.in(0, "")
	x.says(0, "a LIST \"\" *", "* LIST () \"/\" \"INBOX\"|* LIST () \"/\" \"a\"|* LIST () \"/\" \"u\"|a OK done")
}

// Wherever the disk is hit: what was answered is there, and what was not is there whole, or not at all.
func TestEveryFall(t *testing.T) {
	lines := []string{"CREATE a", "APPEND a (k) {5}\r\nhello", "SELECT a", "STORE 1 +FLAGS (\\Deleted)", "COPY 1 INBOX", "EXPUNGE", "RENAME a b", "DELETE b"}
	for at := 1; at < 80; at++ {
		for _, keep := range [][]int{nil, slices.Repeat([]int{64}, 50), slices.Repeat([]int{64, 0}, 25), slices.Repeat([]int{33}, 50)} {
			x := begin(t, 1<<12, 4096)
			x.in(0, "")
			x.move(api.MoveLink, 1)
			last := x.p.State()
			x.move(api.MoveArm, at)
			var next api.State
			for _, line := range lines {
				answered := x.p.Do(api.Move{Kind: api.MoveBytes, Bytes: []byte("t " + line + "\r\n")}) == api.OK
				if !answered {
					next = after(last, line)
					break
				}
				if out := string(x.p.Out(0)); !strings.Contains(out, "t OK") {
					t.Fatalf("%s: %q", line, out)
				}
				last = x.p.State()
			}
			x.do(api.Move{Kind: api.MoveFall, Keep: keep}, api.OK)
			got := x.p.State()
			if !same(got, last) && (next.Token == 0 || !same(got, next)) {
				t.Fatalf("P28.3: hit at %d: %+v; was %+v", at, got, last)
			}
		}
	}
}

// after is what a line makes of a state.
func after(s api.State, line string) api.State {
	var e api.Errno
	switch strings.Fields(line)[0] {
	case "CREATE":
		s, e = queue.Create(s, "a")
	case "APPEND":
		s, _, e = queue.Append(s, "a", []string{"k"}, "", []byte("hello"))
	case "STORE":
		s, _, e = queue.Store(s, "a", []uint32{1}, api.AddFlags, []string{`\Deleted`})
	case "COPY":
		s, _, e = queue.Copy(s, "a", []uint32{1}, "INBOX")
	case "EXPUNGE":
		s, _, e = queue.Expunge(s, "a", []uint32{1})
	case "RENAME":
		s, e = queue.Rename(s, "a", "b")
	case "DELETE":
		s, e = queue.Delete(s, "b")
	}
	if e != api.OK {
		return api.State{}
	}
	return s
}

func TestAFallWithinAStep(t *testing.T) {
	for at := 1; at < 12; at++ {
		x := begin(t, 1<<10, 4096)
		x.in(0, "")
		x.bytes(0, "a APPEND INBOX {1}\r\nx\r\na APPEND INBOX {1}\r\ny\r\n")
		x.move(api.MoveLink, 1)
		x.move(api.MoveArm, at)
		for range 20 {
			if e := x.p.Do(api.Move{Kind: api.MoveSync}); e != api.OK {
				break
			}
		}
		x.do(api.Move{Kind: api.MoveFall}, api.OK)
		x.move(api.MoveLink, 1)
		x.settle()
		b, _ := x.h.Box("INBOX")
		if len(b.Msgs) != 2 || string(b.Msgs[0].Body) != "x" || len(x.p.State().Dead) != 0 {
			t.Errorf("W4: hit at %d: %+v", at, b)
		}
	}
}

func TestHandedOut(t *testing.T) {
	x := begin(t, 1<<14, 4096)
	x.in(0, "INBOX")
	x.bytes(0, "a APPEND INBOX (k) {1}\r\nx\r\n")
	s := x.p.State()
	s.Image.Folders[0].List[0].Flags[0] = "q"
	s.Queue[0].Box = "q"
	seat, _ := x.p.Seat(0)
	seat.Sight.Uids[0] = 9
	x.p.Out(0)[0] = 'q'
	again, _ := x.p.Seat(0)
	if n := x.p.State(); n.Image.Folders[0].List[0].Flags[0] != "k" || n.Queue[0].Box != "INBOX" || again.Sight.Uids[0] != 1 {
		t.Error("R3: what is handed out is new")
	}
}

func TestUsesAreKeptAndPutLater(t *testing.T) {
	x := begin(t, 1<<14, 4096)
	x.in(0, "INBOX")
	x.bytes(0, "a APPEND INBOX {1}\r\nx\r\n")
	x.move(api.MoveArm, 1)
	x.bytes(0, "b FETCH 1 BODY.PEEK[]\r\n")
	if s := x.p.State(); s.Image.Clock != 1 || s.Image.Folders[0].List[0].Used != 1 || x.p.Down() {
		t.Errorf("P28.2: what only counts uses is kept, and not put: %+v", s.Image)
	}
	x.move(api.MoveArm, 0)
	x.bytes(0, "c CREATE a\r\n")
	x.do(api.Move{Kind: api.MoveFall}, api.OK)
	if s := x.p.State(); s.Image.Clock != 1 || s.Image.Folders[0].List[0].Used != 1 {
		t.Errorf("P28.2: it is put with what is put next: %+v", s.Image)
	}
	x.move(api.MoveLink, 1)
	x.move(api.MoveArm, 1)
	x.steps(1)
	if x.p.Down() {
		t.Error("P28.2: a step that changes no state puts none")
	}
}

func TestUpstreamDrops(t *testing.T) {
	x := begin(t, 1<<14, 4096)
	dropped := func(what string) {
		t.Helper()
		if got := string(x.r.Line([]byte("q CHECK"))); got != "q BAD bad\r\n" {
			t.Errorf("P28.2: upstream drops: %s: %q", what, got)
		}
	}
	x.move(api.MoveLink, 1)
	x.steps(1)
	x.move(api.MoveCut, 0)
	x.steps(1)
	dropped("MoveCut")
	x.move(api.MoveLink, 1)
	x.steps(1)
	x.do(api.Move{Kind: api.MoveFall}, api.OK)
	dropped("MoveFall")
	x.move(api.MoveLink, 1)
	x.steps(1)
	x.move(api.MoveLink, 1)
	if got := string(x.r.Line([]byte("q CHECK"))); got != "q OK done\r\n" {
		t.Errorf("P28.2: a link that stays: %q", got)
	}
	x.move(api.MoveLink, 0)
	dropped("MoveLink")
}

func TestDownStaysDown(t *testing.T) {
	x := begin(t, 1<<14, 4096)
	x.in(0, "")
	x.move(api.MoveArm, 1)
	x.do(api.Move{Kind: api.MoveBytes, Bytes: []byte("a CREATE a\r\n")}, api.ErrDown)
	x.d.Start()
	if !x.p.Down() {
		t.Error("P28.1: once the disk has gone down, till MoveFall")
	}
	x.do(api.Move{Kind: api.MoveBytes, Bytes: []byte("a NOOP\r\n")}, api.ErrDown)
	x.do(api.Move{Kind: api.MoveFall}, api.OK)
	x.d.Crash(nil)
	if !x.p.Down() {
		t.Error("P28.1: a disk that has crashed")
	}
	x.do(api.Move{Kind: api.MoveSync}, api.ErrDown)
	x.do(api.Move{Kind: api.MoveFall}, api.OK)
	if x.p.Down() {
		t.Error("P28.1: till MoveFall")
	}
}

func TestNoRoomForAStep(t *testing.T) {
	x := begin(t, 400, 4096)
	var l []string
	for i := range 12 {
		l = append(l, strings.Repeat("k", 20)+strconv.Itoa(100+i))
	}
	for range 150 {
		x.edit("", "APPEND INBOX ("+strings.Join(l, " ")+") {1}\r\nx")
	}
	x.move(api.MoveLink, 1)
	x.steps(3)
	before := x.p.State()
	x.steps(1)
	if line := x.p.Line(); line.Phase != 0 || !line.In || !same(x.p.State(), before) {
		t.Errorf("P28.2: nothing comes of it, and Phase is 0: %+v", line)
	}
}
