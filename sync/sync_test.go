package sync_test

import (
	"reflect"
	"slices"
	"strconv"
	"strings"
	"testing"

	"cubby/api"
	"cubby/client"
	"cubby/house"
	"cubby/image"
	"cubby/queue"
	"cubby/remote"
	"cubby/sync"
)

const noDate = " 1-Jan-1970 00:00:00 +0000"

func plain(v reflect.Value) {
	switch v.Kind() {
	case reflect.Struct:
		for i := range v.NumField() {
			plain(v.Field(i))
		}
	case reflect.Slice:
		if v.Len() == 0 {
			v.SetZero()
		}
		for i := range v.Len() {
			plain(v.Index(i))
		}
	}
}

func same[T any](a, b T) bool {
	plain(reflect.ValueOf(&a).Elem())
	plain(reflect.ValueOf(&b).Elem())
	return reflect.DeepEqual(a, b)
}

func word(kind int) api.Word             { return api.Word{Kind: kind} }
func box(kind int, name string) api.Word { return api.Word{Kind: kind, Box: name} }
func ok() api.Heard                      { return api.Heard{OK: true} }
func no() api.Heard                      { return api.Heard{No: true} }
func valid(n uint32) api.Heard           { return api.Heard{OK: true, Valid: n} }
func names(l ...string) api.Heard        { return api.Heard{OK: true, Names: l} }

// line is a state, and a link on which one is logged in.
type line struct {
	t *testing.T
	s api.State
	l api.Line
}

func on(t *testing.T, s api.State) *line {
	return &line{t, s, api.Line{On: true, In: true}}
}

func (x *line) next(want api.Word) {
	x.t.Helper()
	if w, ok := sync.Next(x.s, x.l); !ok || !same(w, want) {
		x.t.Fatalf("P27.2: Next: %+v; want %+v", w, want)
	}
}

// step expects a word, and hears an answer.
func (x *line) step(want api.Word, h api.Heard) {
	x.t.Helper()
	x.next(want)
	x.hear(want, h)
}

func (x *line) hear(w api.Word, h api.Heard) {
	x.t.Helper()
	x.s, x.l = sync.Got(x.s, x.l, w, h)
	if !queue.Right(x.s) {
		x.t.Fatalf("what is answered is right: %+v", x.s)
	}
}

func (x *line) phase(n int) {
	x.t.Helper()
	if x.l.Phase != n {
		x.t.Fatalf("P27.3: Phase %d; want %d", x.l.Phase, n)
	}
}

// dead expects one more dead, an empty queue, and a new beginning.
func (x *line) dead(why int) {
	x.t.Helper()
	if n := len(x.s.Dead); n == 0 || x.s.Dead[n-1].Why != why || len(x.s.Queue) != 0 {
		x.t.Fatalf("P27.3: killed: %+v", x.s.Dead)
	}
	x.phase(0)
}

func (x *line) finished() {
	x.t.Helper()
	if len(x.s.Queue) != 0 || len(x.s.Dead) != 0 {
		x.t.Fatalf("P27.3: done: %+v", x.s)
	}
	x.phase(0)
}

func added(s api.State, name string) api.State {
	s, _, _ = queue.Append(s, name, []string{"k"}, "", []byte("x"))
	return s
}

func created(name string) api.State {
	s, _ := queue.Create(queue.Begin(), name)
	return s
}

// known is a state whose INBOX has messages of the Ups 5 and 6, upstream's validity being 7.
func known() api.State {
	s := queue.Begin()
	s.Image = image.Merge(s.Image, "INBOX", 7, []api.Seen{{Up: 5, Date: noDate, Size: 2}, {Up: 6, Date: noDate, Size: 2}})
	return s
}

func TestLink(t *testing.T) {
	if l := sync.Begin(); !same(l, api.Line{}) {
		t.Errorf("P27.1: Begin: %+v", l)
	}
	w := []api.Want{{Valid: 1, Uid: 2}}
	l := api.Line{On: true, In: true, Phase: 11, Todo: []string{"a"}, Valid: 3, Wants: w}
	if got := sync.Link(l, true); !same(got, l) {
		t.Errorf("P27.1: Link: %+v", got)
	}
	if got := sync.Link(l, false); !same(got, api.Line{Wants: w}) {
		t.Errorf("P27.1: Link: %+v", got)
	}
	if got := sync.Link(api.Line{Wants: w, Phase: 3}, true); !same(got, api.Line{On: true, Wants: w}) {
		t.Errorf("P27.1: Link: %+v", got)
	}
	got := sync.Want(l, []api.Want{{Valid: 3, Uid: 1}, {Valid: 1, Uid: 2}, {Valid: 3, Uid: 1}})
	if !same(got.Wants, []api.Want{{Valid: 1, Uid: 2}, {Valid: 3, Uid: 1}}) || len(l.Wants) != 1 {
		t.Errorf("P27.1: Want: %+v", got)
	}
	for i := range uint32(70) {
		got = sync.Want(got, []api.Want{{Valid: 9, Uid: i}})
	}
	if len(got.Wants) != 64 || got.Wants[63].Uid != 61 {
		t.Errorf("P27.1: as many as may be: %d", len(got.Wants))
	}
}

func TestLogin(t *testing.T) {
	s := created("a")
	if w, ok := sync.Next(s, api.Line{}); ok || !same(w, api.Word{}) {
		t.Error("P27.2: without a link")
	}
	x := on(t, s)
	x.l.In = false
	x.step(word(api.SayLogin), no())
	if x.l.In {
		t.Error("P27.3: Login")
	}
	x.l.Phase = 7
	x.step(word(api.SayLogin), ok())
	if !x.l.In {
		t.Error("P27.3: Login")
	}
	x.phase(0)
	x.hear(word(api.SayLogin), no())
	if x.l.In {
		t.Error("P27.3: Login counts always")
	}
}

func TestCreate(t *testing.T) {
	x := on(t, created("a"))
	x.step(word(api.SayList), no())
	x.phase(0)
	x.step(word(api.SayList), names("INBOX"))
	x.phase(1)
	before := x.s
	x.step(box(api.SayCreate, "a"), ok())
	x.finished()
	x = on(t, before)
	x.step(word(api.SayList), names("INBOX", "a"))
	x.finished()
	x = on(t, before)
	x.step(word(api.SayList), names("INBOX"))
	x.step(box(api.SayCreate, "a"), no())
	x.dead(api.DeadRefused)
	if image.Find(x.s.Image, "a") >= 0 {
		t.Error("P27.3: killed")
	}
}

func TestDeleteAndRename(t *testing.T) {
	s := queue.Done(created("a"), 0)
	d, _ := queue.Delete(s, "a")
	x := on(t, d)
	x.step(word(api.SayList), names("INBOX"))
	x.finished()
	x = on(t, d)
	x.step(word(api.SayList), names("a"))
	x.step(box(api.SayDelete, "a"), ok())
	x.finished()
	x = on(t, d)
	x.step(word(api.SayList), names("a"))
	x.step(box(api.SayDelete, "a"), api.Heard{})
	x.dead(api.DeadRefused)
	r, _ := queue.Rename(s, "a", "b")
	say := api.Word{Kind: api.SayRename, Box: "a", To: "b"}
	for _, n := range [][]string{{"a"}, {"a", "b"}} {
		x = on(t, r)
		x.step(word(api.SayList), names(n...))
		before := *x
		x.step(say, ok())
		x.finished()
		x = &before
		x.step(say, no())
		x.dead(api.DeadRefused)
	}
	x = on(t, r)
	x.step(word(api.SayList), names("b"))
	x.finished()
	x = on(t, r)
	x.step(word(api.SayList), names("c"))
	x.dead(api.DeadGone)
}

func TestAppend(t *testing.T) {
	s := added(queue.Begin(), "INBOX")
	put := api.Word{Kind: api.SayAppend, Box: "INBOX", Flags: []string{"k"}, Date: noDate, Body: []byte("x"), Token: 1}
	look := api.Word{Kind: api.SayLook, Token: 1}
	up := func(x *line, want uint32) {
		t.Helper()
		x.finished()
		if h := x.s.Image.Folders[0].List[0]; h.Up != want {
			t.Errorf("P27.3: Up %d; want %d", h.Up, want)
		}
	}
	x := on(t, s)
	x.step(box(api.SaySelect, "INBOX"), valid(7))
	x.phase(1)
	if x.l.Valid != 7 || x.s.Image.Folders[0].Up != 7 {
		t.Errorf("P27.3: Select: %+v", x.l)
	}
	first := *x
	x.step(look, ok())
	x.phase(2)
	second := *x
	x.step(put, api.Heard{OK: true, Valid: 7, Up: 9})
	up(x, 9)
	again := second
	x = &again
	x.step(put, api.Heard{OK: true, Valid: 8, Up: 9})
	up(x, 0)
	again = second
	x = &again
	x.step(put, ok())
	up(x, 0)
	again = second
	x = &again
	x.step(put, no())
	x.dead(api.DeadRefused)
	if len(x.s.Image.Folders[0].List) != 0 {
		t.Error("P27.3: killed")
	}
	again = first
	x = &again
	x.step(look, no())
	x.phase(0)
	x.next(box(api.SaySelect, "INBOX"))
	again = first
	x = &again
	x.step(look, api.Heard{OK: true, Ups: []uint32{3, 4}})
	up(x, 4)
	again = first
	x = &again
	x.l.Valid = 9
	x.step(look, api.Heard{OK: true, Ups: []uint32{3}})
	up(x, 0)
	x = on(t, s)
	x.step(box(api.SaySelect, "INBOX"), no())
	x.dead(api.DeadGone)
	s.Image.Folders[0].Up = 6
	x = on(t, s)
	x.step(box(api.SaySelect, "INBOX"), valid(7))
	x.dead(api.DeadEpoch)
}

func TestStoreAndExpunge(t *testing.T) {
	s, _, _ := queue.Store(known(), "INBOX", []uint32{1, 2}, api.AddFlags, []string{`\Deleted`})
	store := api.Word{Kind: api.SayStore, Ups: []uint32{5, 6}, Op: api.AddFlags, Flags: []string{`\Deleted`}}
	x := on(t, s)
	x.step(box(api.SaySelect, "INBOX"), valid(7))
	before := *x
	x.step(store, ok())
	x.finished()
	x = &before
	x.step(store, no())
	x.dead(api.DeadRefused)
	x = on(t, s)
	x.step(box(api.SaySelect, "INBOX"), valid(8))
	x.dead(api.DeadEpoch)
	s = queue.Done(s, 0)
	e, _, _ := queue.Expunge(s, "INBOX", []uint32{2})
	x = on(t, e)
	x.step(box(api.SaySelect, "INBOX"), valid(7))
	x.step(api.Word{Kind: api.SayRemove, Ups: []uint32{6}}, ok())
	x.finished()
	if l := x.s.Image.Folders[0].List; len(l) != 1 {
		t.Errorf("P27.3: done: %+v", l)
	}
	n := queue.Done(added(queue.Begin(), "INBOX"), 0)
	n, _, _ = queue.Store(n, "INBOX", []uint32{1}, api.SetFlags, nil)
	x = on(t, n)
	x.step(box(api.SaySelect, "INBOX"), valid(7))
	x.dead(api.DeadGone)
	x = on(t, n)
	x.l.Phase = 1
	x.next(box(api.SaySelect, "INBOX"))
}

func TestRound(t *testing.T) {
	x := on(t, known())
	x.step(word(api.SayList), no())
	x.phase(0)
	x.step(word(api.SayList), names("INBOX", "a", "b"))
	x.phase(10)
	if !slices.Equal(x.l.Todo, []string{"INBOX", "a", "b"}) || !slices.Equal(image.Names(x.s.Image), x.l.Todo) {
		t.Errorf("P27.3: List: %q", x.l.Todo)
	}
	x.step(box(api.SaySelect, "INBOX"), valid(7))
	x.phase(11)
	x.step(word(api.SayAll), api.Heard{OK: true, List: []api.Seen{{Up: 6, Flags: []string{"z"}, Date: noDate, Size: 2}}})
	x.phase(10)
	if l := x.s.Image.Folders[0].List; len(l) != 1 || l[0].Up != 6 || l[0].Flags[0] != "z" {
		t.Errorf("P27.3: All: %+v", l)
	}
	x.step(box(api.SaySelect, "a"), no())
	x.phase(10)
	x.step(box(api.SaySelect, "b"), valid(3))
	before := *x
	x.step(word(api.SayAll), no())
	x.phase(0)
	if len(x.l.Todo) != 0 || x.s.Image.Folders[2].Up != 0 {
		t.Errorf("P27.3: All that is refused: %+v", x.l)
	}
	if !sync.Rests(x.s, x.l) {
		t.Error("P27.4: Rests")
	}
	x = &before
	x.s = added(x.s, "INBOX")
	x.next(box(api.SaySelect, "INBOX"))
	x.hear(word(api.SayAll), ok())
	x.phase(0)
	if len(x.s.Image.Folders[0].List) != 2 {
		t.Error("P27.3: nothing comes of a word that Next does not tell any more")
	}
}

func TestWants(t *testing.T) {
	s := known()
	w := func(uid uint32) api.Want { return api.Want{Valid: 1, Uid: uid} }
	body := api.Word{Kind: api.SayBody, Ups: []uint32{6}}
	x := on(t, s)
	x.l.Wants = []api.Want{w(9), {Valid: 4, Uid: 1}, w(2), w(1)}
	if sync.Rests(x.s, x.l) {
		t.Error("P27.4: something is wanted")
	}
	x.step(box(api.SaySelect, "INBOX"), valid(7))
	x.phase(20)
	if !same(x.l.Wants, []api.Want{w(2), w(1)}) {
		t.Errorf("P27.3: those that are no such messages are away: %v", x.l.Wants)
	}
	before := *x
	x.step(body, api.Heard{OK: true, Has: true, Body: []byte("hi")})
	x.phase(0)
	if h := x.s.Image.Folders[0].List[1]; !h.Has || string(h.Body) != "hi" || !same(x.l.Wants, []api.Want{w(1)}) {
		t.Errorf("P27.3: Body: %+v, %v", h, x.l.Wants)
	}
	x.next(box(api.SaySelect, "INBOX"))
	for _, h := range []api.Heard{{No: true, Has: true, Body: []byte("hi")}, {OK: true}, {OK: true, Has: true, Body: []byte("long")}} {
		again := before
		x = &again
		x.step(body, h)
		x.phase(0)
		if h := x.s.Image.Folders[0].List[1]; h.Has || !same(x.l.Wants, []api.Want{w(1)}) {
			t.Errorf("P27.3: it is away in any case: %+v", h)
		}
	}
	for _, h := range []api.Heard{no(), valid(8)} {
		x = on(t, s)
		x.l.Wants = []api.Want{w(2), w(1)}
		x.step(box(api.SaySelect, "INBOX"), h)
		x.phase(0)
		if !same(x.l.Wants, []api.Want{w(1)}) {
			t.Errorf("P27.3: it is away: %v", x.l.Wants)
		}
	}
	again := before
	x = &again
	x.s = added(x.s, "INBOX")
	x.next(box(api.SaySelect, "INBOX"))
	x.hear(body, api.Heard{OK: true, Has: true, Body: []byte("hi")})
	x.phase(0)
	if x.s.Image.Folders[0].List[1].Has {
		t.Error("P27.3: an entry has come meanwhile")
	}
	x = on(t, added(queue.Begin(), "INBOX"))
	x.s = queue.Done(x.s, 0)
	x.l.Wants = []api.Want{w(1)}
	x.next(word(api.SayList))
	x = on(t, s)
	x.l.Wants = []api.Want{w(1)}
	x.l.Phase = 10
	x.l.Todo = []string{"INBOX"}
	x.next(box(api.SaySelect, "INBOX"))
	x.hear(box(api.SaySelect, "INBOX"), valid(7))
	x.phase(20)
}

func TestNothingComesOfIt(t *testing.T) {
	s := created("a")
	for _, l := range []api.Line{{Phase: 1}, {On: true, Phase: 1}} {
		got, m := sync.Got(s, l, box(api.SayCreate, "a"), ok())
		l.Phase = 0
		if !same(got, s) || !same(m, l) {
			t.Errorf("P27.3: without a link, or without In: %+v", m)
		}
	}
	x := on(t, s)
	x.l.Phase = 1
	x.hear(box(api.SayCreate, "b"), ok())
	x.phase(0)
	if len(x.s.Queue) != 1 {
		t.Error("P27.3: of another word")
	}
}

func TestRests(t *testing.T) {
	l := api.Line{On: true, In: true}
	if !sync.Rests(queue.Begin(), l) || sync.Rests(created("a"), l) {
		t.Error("P27.4: Rests")
	}
	for i, m := range []api.Line{{}, {On: true}, {In: true}, {On: true, In: true, Phase: 10}} {
		if sync.Rests(queue.Begin(), m) {
			t.Errorf("P27.4: row %d", i)
		}
	}
	if l.Wants = []api.Want{{Valid: 1, Uid: 1}}; sync.Rests(known(), l) {
		t.Error("P27.4: something is wanted")
	}
}

func TestWrongLines(t *testing.T) {
	for _, l := range []api.Line{{On: true, In: true, Phase: -1}, {On: true, In: true, Phase: 99}, {On: true, In: true, Phase: 11}, {On: true, In: true, Phase: 10}, {On: true, In: true, Phase: 20}} {
		for _, s := range []api.State{{}, created("a"), added(queue.Begin(), "INBOX"), known(), {Queue: []api.Entry{{Kind: 77}}}} {
			w, _ := sync.Next(s, l)
			sync.Got(s, l, w, valid(0))
			sync.Rests(s, l)
		}
	}
}

// talk does steps with a server till it rests, and tells how many.
func (x *line) talk(r *remote.Remote, most int) int {
	x.t.Helper()
	for n := range most + 1 {
		if n > 0 && sync.Rests(x.s, x.l) {
			return n
		}
		w, _ := sync.Next(x.s, x.l)
		b, e := client.Say(w, "s"+strconv.Itoa(n))
		if e != api.OK {
			x.t.Fatalf("Say(%+v): %d", w, e)
		}
		h, e := client.Hear(w, "s"+strconv.Itoa(n), r.Line(b[:len(b)-2]))
		if e != api.OK {
			x.t.Fatalf("Hear of %+v: %d", w, e)
		}
		x.hear(w, h)
	}
	x.t.Fatalf("W5: more than %d steps", most)
	return 0
}

func TestWithAServer(t *testing.T) {
	h := house.New()
	s := queue.Begin()
	s, _ = queue.Create(s, "a")
	s = added(added(s, "a"), "INBOX")
	s, _, _ = queue.Store(s, "a", []uint32{1}, api.AddFlags, []string{`\Deleted`})
	s, _, _ = queue.Copy(s, "a", []uint32{1}, "INBOX")
	s, _, _ = queue.Expunge(s, "a", []uint32{1})
	s, _ = queue.Rename(s, "a", "b")
	s = added(s, "b")
	s, _ = queue.Create(s, "c")
	s, _ = queue.Delete(s, "c")
	entries := len(s.Queue)
	x := &line{t, s, api.Line{On: true}}
	steps := x.talk(remote.New(h), 4*entries+2+2*3+1)
	if len(x.s.Dead) > 0 || len(x.s.Queue) > 0 || !slices.Equal(h.Names(), []string{"INBOX", "b"}) {
		t.Errorf("W1: %d steps: %+v, %q", steps, x.s.Dead, h.Names())
	}
	b, _ := h.Box("b")
	i, _ := h.Box("INBOX")
	if len(b.Msgs) != 1 || b.Next != 3 || len(i.Msgs) != 2 || strings.Join(i.Msgs[1].Flags, " ") != `$cub5 \Deleted k` {
		t.Errorf("W1: %+v %+v", b, i)
	}
	f := x.s.Image.Folders
	if len(f) != 2 || f[0].List[1].Up != 2 || f[1].List[0].Up != 2 || f[1].Up != b.Valid {
		t.Errorf("W1: %+v", f)
	}
}

func TestWhatIsNotWanted(t *testing.T) {
	w := []api.Want{{Valid: 1, Uid: 1}}
	gone := known()
	gone.Image.Folders[0].List[0].Gone = true
	here := known()
	here.Image = image.Fill(here.Image, w[0], []byte("hi"))
	hidden := queue.Done(created("a"), 0)
	hidden.Image = image.Merge(hidden.Image, "a", 3, []api.Seen{{Up: 1, Date: noDate, Size: 2}})
	hidden.Image.Folders[1].Gone = true
	for i, s := range []api.State{gone, here, hidden} {
		x := on(t, s)
		x.l.Wants = []api.Want{{Valid: uint32(1 + i/2), Uid: 1}}
		x.step(word(api.SayList), names("INBOX"))
		if len(x.l.Wants) != 0 {
			t.Errorf("P27.3: row %d: %v", i, x.l.Wants)
		}
	}
	one := known()
	one.Image.Folders[0].List[0].Up = 1
	x := on(t, one)
	x.l.Wants = w
	x.next(box(api.SaySelect, "INBOX"))
}

func TestOddPhases(t *testing.T) {
	s, _, _ := queue.Store(known(), "INBOX", []uint32{1}, api.AddFlags, []string{`\Deleted`})
	e, _, _ := queue.Expunge(queue.Done(s, 0), "INBOX", []uint32{1})
	never := e
	never.Image.Folders = slices.Clone(e.Image.Folders)
	never.Image.Folders[0].List = nil
	rows := []struct {
		s     api.State
		phase int
		want  api.Word
	}{
		{s, 2, box(api.SaySelect, "INBOX")}, {s, 10, box(api.SaySelect, "INBOX")}, {s, 20, box(api.SaySelect, "INBOX")}, {created("a"), 2, word(api.SayList)}, {created("a"), 11, word(api.SayList)},
		{e, 1, api.Word{Kind: api.SayRemove, Ups: []uint32{5}}}, {never, 1, box(api.SaySelect, "INBOX")}, {e, 2, box(api.SaySelect, "INBOX")},
	}
	for _, r := range rows {
		x := on(t, r.s)
		x.l.Phase = r.phase
		x.l.Todo = []string{"INBOX"}
		x.next(r.want)
	}
	x := on(t, created("a"))
	x.l.Phase = 11
	x.step(word(api.SayList), no())
	x.phase(0)
	x = on(t, known())
	x.l.Phase = 20
	x.step(word(api.SayList), no())
	x.phase(0)
}
