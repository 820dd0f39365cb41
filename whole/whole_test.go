// Package whole tests what the whole promises (W1 to W5 of DOC.md), by days of moves that chance makes.
package whole

import (
	"math/rand"
	"reflect"
	"slices"
	"strconv"
	"strings"
	"testing"

	"cubby/api"
	"cubby/audit"
	"cubby/command"
	"cubby/disk"
	"cubby/flags"
	"cubby/house"
	"cubby/image"
	"cubby/proxy"
	"cubby/remote"
	"cubby/reply"
)

// day is a proxy, what is upstream of it, and a plain store to which all is done that clients were answered done.
type day struct {
	t     *testing.T
	r     *rand.Rand
	d     *disk.Disk
	h     *house.House
	p     *proxy.Proxy
	plain *house.House
	uids  map[api.Want]uint32 // what the plain store calls a message
	token uint64              // of the first entry that was not yet done to the plain store
	known [api.MaxSessions]int
}

func begin(t *testing.T, seed int64) *day {
	x := &day{t: t, r: rand.New(rand.NewSource(seed)), h: house.New(), plain: house.New(), uids: map[api.Want]uint32{}, token: 1}
	x.d, _ = disk.New(1 << 15)
	x.p, _ = proxy.New(x.d, remote.New(x.h), 200)
	return x
}

func (x *day) boxes(h *house.House) []api.Box {
	var out []api.Box
	for _, n := range h.Names() {
		b, _ := h.Box(n)
		out = append(out, b)
	}
	return out
}

// follow does to the plain store what was queued since.
func (x *day) follow() {
	x.t.Helper()
	s := x.p.State()
	for _, e := range s.Queue {
		if e.Token < x.token {
			continue
		}
		x.token = e.Token + 1
		switch e.Kind {
		case api.DoCreate:
			x.fine(e, x.plain.Create(e.Box))
		case api.DoDelete:
			x.fine(e, x.plain.Delete(e.Box))
		case api.DoRename:
			x.fine(e, x.plain.Rename(e.Box, e.To))
		case api.DoAppend:
			uid, err := x.plain.Append(e.Box, e.Flags, e.Date, e.Body)
			x.fine(e, err)
			x.uids[api.Want{Valid: e.Valid, Uid: e.Uids[0]}] = uid
		case api.DoStore:
			for _, uid := range e.Uids {
				x.fine(e, x.plain.Store(e.Box, x.uids[api.Want{Valid: e.Valid, Uid: uid}], e.Op, e.Flags))
			}
		case api.DoExpunge:
			var l []uint32
			for _, uid := range e.Uids {
				l = append(l, x.uids[api.Want{Valid: e.Valid, Uid: uid}])
			}
			_, err := x.plain.Expunge(e.Box, l)
			x.fine(e, err)
		}
	}
}

func (x *day) fine(e api.Entry, err api.Errno) {
	x.t.Helper()
	if err != api.OK {
		x.t.Fatalf("W1: a plain store refuses %+v: %d", e, err)
	}
}

func (x *day) do(m api.Move) api.Errno {
	x.t.Helper()
	e := x.p.Do(m)
	if l := audit.Check(x.p.State()); len(l) > 0 {
		x.t.Fatalf("%+v: %q", m, l)
	}
	if !audit.Once(x.boxes(x.h)) {
		x.t.Fatalf("W4: %+v: a token stands on more than one message", m)
	}
	return e
}

func (x *day) line() string {
	box := func() string { return []string{"INBOX", "a", "b", "a/c", "&AOk-"}[x.r.Intn(5)] }
	set := func() string { return []string{"1", "2", "1:*", "*", "2:3", "1,3"}[x.r.Intn(6)] }
	marks := func() string {
		return []string{`\Deleted`, `\Seen k`, "", `\Deleted x`, `\Flagged`}[x.r.Intn(5)]
	}
	uid := []string{"", "UID "}[x.r.Intn(2)]
	switch x.r.Intn(20) {
	case 0, 1:
		return "CREATE " + box()
	case 2:
		return "DELETE " + box()
	case 3:
		return "RENAME " + box() + " " + box()
	case 4, 5, 6, 7:
		body := strings.Repeat("z", x.r.Intn(80))
		return "APPEND " + box() + " (" + marks() + ") {" + strconv.Itoa(len(body)) + "}\r\n" + body
	case 8, 9, 10:
		return uid + "STORE " + set() + " " + []string{"FLAGS", "+FLAGS", "-FLAGS.SILENT"}[x.r.Intn(3)] + " (" + marks() + ")"
	case 11:
		return "EXPUNGE"
	case 12:
		return "UID EXPUNGE " + set()
	case 13:
		return uid + "COPY " + set() + " " + box()
	case 14, 15:
		return uid + "FETCH " + set() + " " + []string{"FLAGS", "BODY[]", "(UID BODY.PEEK[TEXT])", "ENVELOPE"}[x.r.Intn(4)]
	case 16:
		return uid + "SEARCH " + []string{"ALL", "UNDELETED", "BODY z", "NOT 1"}[x.r.Intn(4)]
	case 17:
		return "CLOSE"
	case 18:
		return []string{"NOOP", "CHECK", "STATUS " + box() + " (MESSAGES UNSEEN)", "LIST \"\" *"}[x.r.Intn(4)]
	}
	return []string{"SELECT ", "EXAMINE "}[x.r.Intn(5)/4] + box()
}

// listen goes through what a session is told, as a client does.
func (x *day) listen(who int) {
	x.t.Helper()
	out := x.p.Out(who)
	for len(out) > 0 {
		r, n, e := reply.Parse(out)
		if e != api.OK {
			x.t.Fatalf("W3: what is told is no reply: %q", out)
		}
		out = out[n:]
		switch r.Kind {
		case api.ReplyFlags:
			x.known[who] = 0
		case api.ReplyExist:
			if int(r.N) < x.known[who] {
				x.t.Fatalf("W3: EXISTS %d of %d", r.N, x.known[who])
			}
			x.known[who] = int(r.N)
		case api.ReplyGone:
			if int(r.N) > x.known[who] {
				x.t.Fatalf("W3: EXPUNGE %d of %d", r.N, x.known[who])
			}
			x.known[who]--
		case api.ReplyFetch:
			if int(r.N) > x.known[who] {
				x.t.Fatalf("W3: FETCH %d of %d", r.N, x.known[who])
			}
		}
	}
	if s, ok := x.p.Seat(who); ok && s.At == api.SeatBox && len(s.Sight.Uids) != x.known[who] {
		x.t.Fatalf("W3: a client knows %d, its sight has %d", x.known[who], len(s.Sight.Uids))
	}
}

func (x *day) client() {
	x.t.Helper()
	who := x.r.Intn(3)
	if _, ok := x.p.Seat(who); !ok {
		if x.do(api.Move{Kind: api.MoveOpen, Who: who}) != api.OK {
			return
		}
		x.do(api.Move{Kind: api.MoveBytes, Who: who, Bytes: []byte("t LOGIN a b\r\nt SELECT INBOX\r\n")})
		x.listen(who)
	}
	e := x.do(api.Move{Kind: api.MoveBytes, Who: who, Bytes: []byte("t " + x.line() + "\r\n")})
	x.listen(who)
	if e == api.OK {
		x.follow()
	}
	if x.r.Intn(30) == 0 {
		x.do(api.Move{Kind: api.MoveClose, Who: who})
	}
}

func (x *day) fall() {
	x.t.Helper()
	keep := make([]int, x.d.Waiting())
	for i := range keep {
		keep[i] = []int{0, 64, x.r.Intn(65)}[x.r.Intn(3)]
	}
	if e := x.do(api.Move{Kind: api.MoveFall, Keep: keep}); e != api.OK {
		x.t.Fatalf("W2: MoveFall: %d", e)
	}
	once := x.p.State()
	if e := x.do(api.Move{Kind: api.MoveFall}); e != api.OK || !reflect.DeepEqual(once, x.p.State()) {
		x.t.Fatal("W2: opened twice it is as opened once")
	}
	x.follow()
}

// step does what is likely on any day; others edit only where wild says so.
func (x *day) step(wild bool) {
	x.t.Helper()
	switch n := x.r.Intn(40); {
	case n < 22:
		x.client()
	case n < 33:
		for range x.r.Intn(4) {
			x.do(api.Move{Kind: api.MoveSync})
		}
	case n == 33:
		x.do(api.Move{Kind: api.MoveCut})
	case n == 34 || x.p.Down() && n < 37:
		x.fall()
	case n == 35:
		x.do(api.Move{Kind: api.MoveArm, N: 1 + x.r.Intn(20)})
	case n == 36:
		x.do(api.Move{Kind: api.MoveLink, N: 0})
	case n == 37 && wild:
		x.other()
	default:
		x.do(api.Move{Kind: api.MoveLink, N: 1})
	}
}

func (x *day) other() {
	box := []string{"INBOX", "a", "b"}[x.r.Intn(3)]
	lines := []string{"CREATE " + box, "DELETE " + box, "APPEND " + box + " (o) {2}\r\nyo", "APPEND INBOX (\\Deleted) {1}\r\no", "UID STORE 1:* +FLAGS (\\Deleted)", "UID STORE * FLAGS (p)", "UID EXPUNGE 1:*"}
	switch x.r.Intn(8) {
	case 0:
		x.do(api.Move{Kind: api.MoveReset, Box: box})
	case 1:
		x.do(api.Move{Kind: api.MoveNo, N: 1})
	default:
		c, _ := command.Parse([]byte("e " + lines[x.r.Intn(len(lines))]))
		x.do(api.Move{Kind: api.MoveEdit, Box: box, Command: c})
	}
}

// settle lets nothing hinder any more, and holds the steps against their bound.
func (x *day) settle() {
	x.t.Helper()
	x.do(api.Move{Kind: api.MoveArm})
	if x.p.Down() {
		x.fall()
	}
	x.do(api.Move{Kind: api.MoveNo})
	x.do(api.Move{Kind: api.MoveLink, N: 1})
	if x.do(api.Move{Kind: api.MoveSync}) != api.OK || !x.p.Line().On {
		x.do(api.Move{Kind: api.MoveLink, N: 1}) // it was to be cut
	}
	entries, steps := len(x.p.State().Queue), 0
	for ; len(x.p.State().Queue) > 0; steps++ {
		x.do(api.Move{Kind: api.MoveSync})
		if steps > 4*entries+2 {
			x.t.Fatalf("W5: %d entries take more than %d steps", entries, steps)
		}
	}
	for steps = 0; len(x.p.Line().Wants) > 0; steps++ {
		x.do(api.Move{Kind: api.MoveSync})
		if steps > 200 {
			x.t.Fatal("W5: what is wanted does not come")
		}
	}
	for x.p.Line().Phase != 0 || !x.p.Line().In {
		x.do(api.Move{Kind: api.MoveSync})
	}
	x.do(api.Move{Kind: api.MoveSync})
	most := 2*max(len(x.h.Names()), len(image.Names(x.p.State().Image))) + 1
	for steps = 1; x.p.Line().Phase != 0; steps++ {
		x.do(api.Move{Kind: api.MoveSync})
		if steps > most {
			x.t.Fatalf("W5: a round takes more than %d steps", most)
		}
	}
}

func TestWrittenBack(t *testing.T) {
	for seed := int64(0); seed < 60; seed++ {
		x := begin(t, seed)
		for range 4 {
			for range 60 {
				x.step(false)
			}
			x.settle()
			if s := x.p.State(); len(s.Dead) > 0 {
				t.Fatalf("W1: seed %d: the dead: %+v", seed, s.Dead)
			}
			x.sameAsPlain(seed)
			if !audit.Alike(x.boxes(x.h), x.p.State()) {
				t.Fatalf("W5: seed %d: clients see what upstream has", seed)
			}
		}
	}
}

func (x *day) sameAsPlain(seed int64) {
	x.t.Helper()
	if !slices.Equal(x.h.Names(), x.plain.Names()) {
		x.t.Fatalf("W1: seed %d: upstream has %q; a plain store %q", seed, x.h.Names(), x.plain.Names())
	}
	for _, n := range x.h.Names() {
		a, _ := x.h.Box(n)
		b, _ := x.plain.Box(n)
		if len(a.Msgs) != len(b.Msgs) {
			x.t.Fatalf("W1: seed %d: %s: %d messages; %d", seed, n, len(a.Msgs), len(b.Msgs))
		}
		for i := range a.Msgs {
			m, o := a.Msgs[i], b.Msgs[i]
			if !slices.Equal(flags.Hide(m.Flags), o.Flags) || m.Date != o.Date || string(m.Body) != string(o.Body) {
				x.t.Fatalf("W1: seed %d: %s: message %d: %+v; %+v", seed, n, i, m, o)
			}
		}
	}
}

func TestOthers(t *testing.T) {
	for seed := int64(1000); seed < 1080; seed++ {
		x := begin(t, seed)
		x.plain = nil
		x.token = 1 << 63
		for range 3 {
			for range 70 {
				x.step(true)
			}
			x.settle()
			if !audit.Alike(x.boxes(x.h), x.p.State()) {
				t.Fatalf("W5: seed %d: clients see what upstream has: %+v, %+v", seed, x.boxes(x.h), x.p.State())
			}
		}
	}
}
