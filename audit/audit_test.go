package audit_test

import (
	"testing"

	"cubby/api"
	"cubby/audit"
	"cubby/image"
	"cubby/queue"
)

const noDate = " 1-Jan-1970 00:00:00 +0000"

func TestCheck(t *testing.T) {
	s := queue.Begin()
	s, _ = queue.Create(s, "a")
	s, _, _ = queue.Append(s, "a", nil, "", []byte("x"))
	s, _, _ = queue.Store(s, "a", []uint32{1}, api.AddFlags, []string{`\Deleted`})
	s, _, _ = queue.Expunge(s, "a", []uint32{1})
	for i, x := range []api.State{queue.Begin(), s, queue.Done(s, 4), queue.Kill(s, api.DeadGone)} {
		if l := audit.Check(x); len(l) != 0 {
			t.Errorf("P29.1: state %d: %q", i, l)
		}
	}
	wrong := []func(*api.State){
		func(s *api.State) { s.Token = 1 },
		func(s *api.State) { s.Image.Folders[0].Next = 0 },
		func(s *api.State) { s.Queue[0].Valid = 3 },
		func(s *api.State) { s.Queue[0].Valid = 9 },
		func(s *api.State) { s.Queue[1].Uids = []uint32{2} },
		func(s *api.State) { s.Queue[2].Uids = []uint32{1, 2} },
		func(s *api.State) { s.Queue[3].Uids = []uint32{1, 7} },
		func(s *api.State) { *s = api.State{} },
	}
	for i, change := range wrong {
		x := queue.Begin()
		x, _ = queue.Create(x, "a")
		x, _, _ = queue.Append(x, "a", nil, "", []byte("x"))
		x, _, _ = queue.Store(x, "a", []uint32{1}, api.AddFlags, []string{`\Deleted`})
		x, _, _ = queue.Expunge(x, "a", []uint32{1})
		change(&x)
		if l := audit.Check(x); len(l) == 0 {
			t.Errorf("P29.1: row %d: nothing is told", i)
		}
	}
	away := queue.Begin()
	away.Image.Valid = 9
	away.Token = 2
	away.Queue = []api.Entry{{Token: 1, Kind: api.DoExpunge, Box: "q", Valid: 8, Uids: []uint32{99}}}
	if l := audit.Check(away); len(l) != 0 {
		t.Errorf("P29.1: a folder that is not there: %q", l)
	}
}

func msg(uid uint32, l ...string) api.Msg {
	return api.Msg{Uid: uid, Flags: l, Date: noDate, Body: []byte("x")}
}

func TestOnce(t *testing.T) {
	b := func(l ...api.Msg) api.Box { return api.Box{Msgs: l} }
	for i, boxes := range [][]api.Box{nil, {b(), b(msg(1))}, {b(msg(1, "$cub1", "$cub2"), msg(2, "k")), b(msg(1, "$cub3", "k"))}, {b(msg(1, "$cub0"), msg(2, "$cub0"))}, {b(msg(1, "$cub1", "$CUB1"))}, {b(msg(1, "$cub2", "$cub1", "$cub2"))}} {
		if !audit.Once(boxes) {
			t.Errorf("P29.1: row %d: once", i)
		}
	}
	for i, boxes := range [][]api.Box{{b(msg(1, "$cub1"), msg(2, "a", "$cub1"))}, {b(msg(1, "$cub1")), b(msg(7, "$cub1"))}, {b(msg(1, "$cub5")), b(), b(msg(7, "$CUB5"))}, {b(msg(1, "$cub5"), msg(2, "$cub1"), msg(3, "$cub5"))}, {b(msg(1, "$cub5", "$cub1", "$cub3"), msg(2, "$cub9", "$cub1"))}} {
		if audit.Once(boxes) {
			t.Errorf("P29.1: row %d: not once", i)
		}
	}
}

func TestAlike(t *testing.T) {
	made := func() ([]api.Box, api.State) {
		boxes := []api.Box{{Name: "INBOX", Msgs: []api.Msg{msg(4, `\Seen`), msg(7, "$cub1", "k")}}, {Name: "a"}}
		s := queue.Begin()
		s.Image, _ = image.Create(s.Image, "a")
		s.Image = image.Merge(s.Image, "INBOX", 1, []api.Seen{{Up: 7, Flags: []string{"k"}, Date: noDate, Size: 1}})
		s.Image = image.Merge(s.Image, "INBOX", 1, []api.Seen{{Up: 4, Flags: []string{`\Seen`}, Date: noDate, Size: 1}, {Up: 7, Flags: []string{"k"}, Date: noDate, Size: 1}})
		return boxes, s
	}
	if boxes, s := made(); !audit.Alike(boxes, s) {
		t.Errorf("P29.2: alike, by rising Ups: %+v", s)
	}
	if !audit.Alike([]api.Box{{Name: "INBOX"}}, queue.Begin()) {
		t.Error("P29.2: empty ones")
	}
	wrong := []func([]api.Box, *api.State) []api.Box{
		func(b []api.Box, s *api.State) []api.Box { return b[:1] },
		func(b []api.Box, s *api.State) []api.Box { b[1].Name = "b"; return b },
		func(b []api.Box, s *api.State) []api.Box { b[0], b[1] = b[1], b[0]; return b },
		func(b []api.Box, s *api.State) []api.Box { b[0].Msgs = b[0].Msgs[:1]; return b },
		func(b []api.Box, s *api.State) []api.Box { b[1].Msgs = b[0].Msgs; return b },
		func(b []api.Box, s *api.State) []api.Box { b[0].Msgs[0].Uid = 5; return b },
		func(b []api.Box, s *api.State) []api.Box { b[0].Msgs[0].Flags = nil; return b },
		func(b []api.Box, s *api.State) []api.Box { b[0].Msgs[0].Date = " 2-Jan-1970 00:00:00 +0000"; return b },
		func(b []api.Box, s *api.State) []api.Box { b[0].Msgs[0].Body = nil; return b },
		func(b []api.Box, s *api.State) []api.Box {
			*s, _ = queue.Create(*s, "q")
			return b
		},
		func(b []api.Box, s *api.State) []api.Box { s.Image, _ = image.Delete(s.Image, "a"); return b },
		func(b []api.Box, s *api.State) []api.Box { s.Image.Folders[0].List[0].Gone = true; return b },
	}
	for i, change := range wrong {
		boxes, s := made()
		boxes = change(boxes, &s)
		if audit.Alike(boxes, s) {
			t.Errorf("P29.2: row %d is not alike", i)
		}
	}
}
