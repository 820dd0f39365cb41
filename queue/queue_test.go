package queue_test

import (
	"math/rand"
	"reflect"
	"slices"
	"strconv"
	"strings"
	"testing"

	"cubby/api"
	"cubby/image"
	"cubby/queue"
)

const noDate = " 1-Jan-1970 00:00:00 +0000"

func plain(v reflect.Value) {
	switch v.Kind() {
	case reflect.Struct:
		for i := range v.NumField() {
			plain(v.Field(i))
		}
	case reflect.Slice:
		if v.Len() == 0 {
			v.SetZero()
		}
		for i := range v.Len() {
			plain(v.Index(i))
		}
	}
}

func same[T any](a, b T) bool {
	plain(reflect.ValueOf(&a).Elem())
	plain(reflect.ValueOf(&b).Elem())
	return reflect.DeepEqual(a, b)
}

func right(t *testing.T, s api.State) api.State {
	t.Helper()
	if !queue.Right(s) {
		t.Fatalf("P22.1: what is answered is right: %+v", s)
	}
	return s
}

func add(t *testing.T, s api.State, box string, l ...string) api.State {
	t.Helper()
	out, _, e := queue.Append(s, box, l, "", []byte("x"))
	if e != api.OK {
		t.Fatalf("P22.1: Append: %d", e)
	}
	return right(t, out)
}

func create(t *testing.T, s api.State, name string) api.State {
	t.Helper()
	out, e := queue.Create(s, name)
	if e != api.OK {
		t.Fatalf("P22.1: Create: %d", e)
	}
	return right(t, out)
}

func store(t *testing.T, s api.State, box, flag string, uids ...uint32) api.State {
	t.Helper()
	out, _, e := queue.Store(s, box, uids, api.AddFlags, []string{flag})
	if e != api.OK {
		t.Fatalf("P22.1: Store: %d", e)
	}
	return right(t, out)
}

func expunge(t *testing.T, s api.State, box string, uids ...uint32) api.State {
	t.Helper()
	out, _, e := queue.Expunge(s, box, uids)
	if e != api.OK {
		t.Fatalf("P22.1: Expunge: %d", e)
	}
	return right(t, out)
}

func all(s api.State, up uint32) api.State {
	for len(s.Queue) > 0 {
		s = queue.Done(s, up)
		up++
	}
	return s
}

func inbox(s api.State) []api.Held { return s.Image.Folders[image.Find(s.Image, "INBOX")].List }

func TestBegin(t *testing.T) {
	if s := right(t, queue.Begin()); !same(s, api.State{Image: image.Begin(), Token: 1}) {
		t.Errorf("P22.1: %+v", s)
	}
}

func TestEntries(t *testing.T) {
	s := queue.Begin()
	body, l := []byte("hi"), []string{"B", `\seen`, "$cub4"}
	s, uid, e := queue.Append(s, "INBOX", l, "07-Jul-1996 02:44:25 -0730", body)
	body[0], l[0] = 'z', "z"
	if uid != 1 || e != api.OK {
		t.Fatalf("P22.1: Append: %d, %d", uid, e)
	}
	s = create(t, s, "a")
	s, _ = queue.Rename(s, "a", "b")
	s, done, e := queue.Store(s, "INBOX", []uint32{1, 9}, api.AddFlags, []string{`\deleted`, "X", "$cub1"})
	if !slices.Equal(done, []uint32{1}) || e != api.OK {
		t.Errorf("P22.1: Store: %v", done)
	}
	s, done, e = queue.Expunge(s, "INBOX", []uint32{1, 2})
	if !slices.Equal(done, []uint32{1}) || e != api.OK {
		t.Errorf("P22.1: Expunge: %v", done)
	}
	s, _ = queue.Delete(s, "b")
	want := []api.Entry{
		{Token: 1, Kind: api.DoAppend, Box: "INBOX", Valid: 1, Uids: []uint32{1}, Flags: []string{`\Seen`, "b"}, Date: " 7-Jul-1996 02:44:25 -0730", Body: []byte("hi")},
		{Token: 2, Kind: api.DoCreate, Box: "a", Valid: 2},
		{Token: 3, Kind: api.DoRename, Box: "a", To: "b", Valid: 2},
		{Token: 4, Kind: api.DoStore, Box: "INBOX", Valid: 1, Uids: []uint32{1}, Op: api.AddFlags, Flags: []string{`\Deleted`, "x"}},
		{Token: 5, Kind: api.DoExpunge, Box: "INBOX", Valid: 1, Uids: []uint32{1}},
		{Token: 6, Kind: api.DoDelete, Box: "b", Valid: 2},
	}
	if !same(right(t, s).Queue, want) || s.Token != 7 {
		t.Errorf("P22.1: the queue: %+v", s.Queue)
	}
}

func TestRefused(t *testing.T) {
	s := create(t, queue.Begin(), "a")
	s = add(t, s, "a")
	check := func(what string, got api.State, e, want api.Errno) {
		t.Helper()
		if e != want || !same(got, s) {
			t.Errorf("P22.1: %s: %d; want %d", what, e, want)
		}
	}
	got, _, e := queue.Append(s, "none", nil, "", nil)
	check("Append", got, e, api.ErrNone)
	got, _, e = queue.Append(s, "a", nil, "x", nil)
	check("Append", got, e, api.ErrForm)
	got, uids, e := queue.Store(s, "a", []uint32{1}, 9, nil)
	check("Store", got, e, api.ErrArg)
	if uids != nil {
		t.Error("R4: Store")
	}
	got, _, e = queue.Store(s, "a", []uint32{9}, 9, nil)
	check("Store of none", got, e, api.OK)
	got, _, e = queue.Store(s, "b", []uint32{9}, 1, nil)
	check("Store", got, e, api.ErrNone)
	got, _, e = queue.Expunge(s, "a", []uint32{1})
	check("Expunge of none", got, e, api.OK)
	got, _, e = queue.Expunge(s, "b", nil)
	check("Expunge", got, e, api.ErrNone)
	got, e = queue.Create(s, "a")
	check("Create", got, e, api.ErrTwice)
	got, e = queue.Delete(s, "INBOX")
	check("Delete", got, e, api.ErrState)
	got, e = queue.Rename(s, "x", "y")
	check("Rename", got, e, api.ErrNone)
	s.Token = 1 << 63
	got, e = queue.Create(right(t, s), "b")
	check("no token is left", got, e, api.ErrOver)
	got, _, e = queue.Append(s, "none", nil, "", nil)
	check("no token is left", got, e, api.ErrOver)
	s.Token--
	if n, e := queue.Create(s, "b"); e != api.OK || n.Token != 1<<63 || !queue.Right(n) {
		t.Errorf("P22.1: the last token: %d", e)
	}
}

func TestFull(t *testing.T) {
	s := add(t, queue.Begin(), "INBOX")
	for len(s.Queue) < api.MaxQueue {
		s, _, _ = queue.Store(s, "INBOX", []uint32{1}, api.AddFlags, nil)
	}
	right(t, s)
	if got, _, e := queue.Store(s, "INBOX", nil, 1, nil); e != api.ErrFull || !same(got, s) {
		t.Errorf("P22.1: as many entries as may be: %d", e)
	}
	if _, e := queue.Create(s, "%"); e != api.ErrFull {
		t.Errorf("P22.1: ErrFull is named first: %d", e)
	}
	if got, uids, e := queue.Copy(s, "INBOX", []uint32{1}, "INBOX"); e != api.ErrFull || uids != nil || !same(got, s) {
		t.Errorf("P22.2: no room: %d", e)
	}
	for len(s.Queue) > 0 {
		s = queue.Kill(s, api.DeadGone)
	}
	s = create(t, s, "a")
	s = right(t, queue.Kill(s, api.DeadRefused))
	if len(s.Dead) != api.MaxQueue || s.Dead[0].Entry.Token != 2 || s.Dead[api.MaxQueue-1].Why != api.DeadRefused {
		t.Errorf("P22.1: beyond it the eldest go: %d", len(s.Dead))
	}
}

func TestCopy(t *testing.T) {
	s := create(t, queue.Begin(), "a")
	s, _, _ = queue.Append(s, "INBOX", []string{"x", `\Seen`}, " 7-Jul-1996 02:44:25 -0730", []byte("one"))
	s = add(t, s, "INBOX", `\Deleted`)
	s = add(t, s, "INBOX")
	for _, r := range []struct{ box, to string }{{"none", "a"}, {"INBOX", "none"}} {
		if got, l, e := queue.Copy(s, r.box, []uint32{1}, r.to); e != api.ErrNone || l != nil || !same(got, s) {
			t.Errorf("P22.2: Copy: %d", e)
		}
	}
	s = expunge(t, s, "INBOX", 2)
	if got, l, e := queue.Copy(s, "INBOX", []uint32{2, 7}, "a"); e != api.OK || len(l) != 0 || !same(got, s) {
		t.Errorf("P22.2: Copy of none: %d", e)
	}
	n, l, e := queue.Copy(s, "INBOX", []uint32{3, 2, 1}, "a")
	f := right(t, n).Image.Folders[1]
	if e != api.OK || !slices.Equal(l, []uint32{1, 2}) || len(f.List) != 2 || string(f.List[0].Body) != "one" || f.List[0].Date != " 7-Jul-1996 02:44:25 -0730" || !slices.Equal(f.List[0].Flags, []string{`\Seen`, "x"}) {
		t.Errorf("P22.2: Copy: %v, %+v", l, f)
	}
	if q := n.Queue; len(q) != len(s.Queue)+2 || q[len(q)-1].Kind != api.DoAppend || q[len(q)-1].Box != "a" || q[len(q)-2].Uids[0] != 1 {
		t.Errorf("P22.2: what is queued: %+v", q)
	}
	n, l, e = queue.Copy(s, "INBOX", []uint32{1, 3}, "INBOX")
	if e != api.OK || !slices.Equal(l, []uint32{4, 5}) || len(inbox(right(t, n))) != 5 {
		t.Errorf("P22.2: Copy to where it comes from: %v", l)
	}
	s.Image = image.Merge(s.Image, "INBOX", 1, []api.Seen{{Up: 5, Date: noDate, Size: 3}})
	s = add(t, s, "INBOX")
	if got, l, e := queue.Copy(s, "INBOX", []uint32{4, 5}, "a"); e != api.ErrState || l != nil || !same(got, s) {
		t.Errorf("P22.2: bytes that are not here: %d", e)
	}
	if _, l, e := queue.Copy(s, "INBOX", []uint32{5}, "a"); e != api.OK || len(l) != 1 {
		t.Errorf("P22.2: bytes that are here: %d", e)
	}
	for len(s.Image.Folders[1].List) < api.MaxMsgs-1 {
		s.Image, _, _ = image.Add(s.Image, "a", nil, "", nil)
	}
	s = add(t, s, "INBOX")
	if got, l, e := queue.Copy(s, "INBOX", []uint32{5, 6}, "a"); e != api.ErrFull || l != nil || !same(got, s) {
		t.Errorf("P22.2: nothing is changed, if one is refused: %d", e)
	}
}

func TestDone(t *testing.T) {
	if s := queue.Begin(); !same(queue.Done(s, 7), s) || !same(queue.Kill(s, 1), s) {
		t.Error("P22.3: of an empty queue")
	}
	s := add(t, queue.Begin(), "INBOX")
	s = add(t, s, "INBOX")
	d := right(t, queue.Done(s, 7))
	if len(d.Queue) != 1 || d.Queue[0].Token != 2 || inbox(d)[0].Up != 7 || inbox(d)[1].Up != 0 || len(d.Dead) != 0 {
		t.Errorf("P22.3: an append: %+v", d)
	}
	if g := right(t, queue.Done(d, 7)); inbox(g)[1].Up != 0 || len(g.Queue) != 0 {
		t.Errorf("P22.3: another one has it: %+v", g)
	}
	if g := right(t, queue.Done(d, 0)); inbox(g)[1].Up != 0 || len(g.Queue) != 0 {
		t.Errorf("P22.3: Done(0): %+v", g)
	}
	s = all(s, 5)
	s = store(t, s, "INBOX", `\Deleted`, 1, 2)
	s = expunge(t, s, "INBOX", 1)
	s = expunge(t, s, "INBOX", 2)
	s = right(t, queue.Done(s, 0))
	if len(inbox(s)) != 2 {
		t.Error("P22.3: a store")
	}
	s = right(t, queue.Done(s, 0))
	if len(inbox(s)) != 1 || inbox(s)[0].Uid != 2 {
		t.Errorf("P22.3: an expunge: %+v", inbox(s))
	}
	s = create(t, all(s, 0), "a")
	s = add(t, s, "a", `\Deleted`)
	s = expunge(t, s, "a", 1)
	s, _ = queue.Delete(s, "a")
	s = queue.Done(s, 0)
	s = right(t, queue.Done(s, 9))
	if f := s.Image.Folders[1]; !f.Gone || !f.List[0].Gone || f.List[0].Up != 9 {
		t.Errorf("P22.3: an append of what is gone since: %+v", f)
	}
	s = right(t, queue.Done(s, 0))
	if f := s.Image.Folders[1]; len(f.List) != 0 {
		t.Errorf("P22.3: an expunge in a folder that is gone: %+v", f)
	}
	s = right(t, queue.Done(s, 0))
	if len(s.Image.Folders) != 1 || len(s.Queue) != 0 {
		t.Errorf("P22.3: a delete: %+v", s)
	}
}

func TestKill(t *testing.T) {
	s := add(t, queue.Begin(), "INBOX")
	s = add(t, s, "INBOX")
	k := right(t, queue.Kill(s, api.DeadRefused))
	if len(inbox(k)) != 1 || inbox(k)[0].Uid != 2 || len(k.Queue) != 1 || len(k.Dead) != 1 || k.Dead[0].Why != api.DeadRefused || !same(k.Dead[0].Entry, s.Queue[0]) {
		t.Errorf("P22.3: an append: %+v", k)
	}
	u := s
	u.Image = image.Merge(s.Image, "INBOX", 4, nil)
	if k = right(t, queue.Kill(u, api.DeadEpoch)); len(k.Dead) != 1 {
		t.Error("P22.3: an append whose message is not there")
	}
	s = all(s, 5)
	s = store(t, s, "INBOX", `\Deleted`, 1, 2)
	s = expunge(t, s, "INBOX", 1, 2)
	s = right(t, queue.Kill(s, api.DeadGone))
	if len(inbox(s)) != 2 || !inbox(s)[0].Gone || s.Dead[0].Entry.Kind != api.DoStore {
		t.Errorf("P22.3: a store: %+v", s)
	}
	s = right(t, queue.Kill(s, api.DeadGone))
	if inbox(s)[0].Gone || inbox(s)[1].Gone || len(s.Dead) != 2 || s.Dead[1].Entry.Kind != api.DoExpunge {
		t.Errorf("P22.3: an expunge: %+v", s)
	}
	s = create(t, s, "a")
	if k = right(t, queue.Kill(s, api.DeadRefused)); image.Find(k.Image, "a") >= 0 {
		t.Error("P22.3: a create")
	}
	u = s
	u.Image = image.Merge(s.Image, "a", 3, nil)
	if k = right(t, queue.Kill(u, api.DeadRefused)); image.Find(k.Image, "a") < 0 {
		t.Error("P22.3: a create of what upstream has")
	}
	u, _ = queue.Rename(s, "a", "b")
	u = queue.Kill(queue.Done(u, 0), api.DeadGone)
	if image.Find(right(t, u).Image, "b") < 0 {
		t.Error("P22.3: a rename")
	}
	s, _ = queue.Delete(s, "a")
	s = queue.Done(s, 0)
	s = right(t, queue.Kill(s, api.DeadRefused))
	if len(s.Image.Folders) != 1 || s.Dead[2].Entry.Kind != api.DoDelete {
		t.Errorf("P22.3: a delete: %+v", s.Image)
	}
}

func TestKillOfAnExpungeHasNoRoom(t *testing.T) {
	s := queue.Begin()
	for range api.MaxMsgs {
		s, _, _ = queue.Append(s, "INBOX", []string{`\Deleted`}, "", nil)
	}
	s = all(s, 1)
	s = expunge(t, s, "INBOX", 1, 2, 3)
	s = add(t, s, "INBOX")
	s = add(t, s, "INBOX")
	s = right(t, queue.Kill(s, api.DeadGone))
	if l := inbox(s); l[0].Gone || !l[1].Gone || !l[2].Gone {
		t.Error("P22.3: the first ones first, as long as there is room")
	}
}

func TestKeptUp(t *testing.T) {
	s := add(t, queue.Begin(), "INBOX")
	s.Image.Folders[0].List[0].Up = 8
	if k := right(t, queue.Kill(s, api.DeadGone)); len(inbox(k)) != 1 {
		t.Error("P22.3: an append whose message upstream has")
	}
}

func TestUps(t *testing.T) {
	s := queue.Begin()
	for range 4 {
		s = add(t, s, "INBOX")
	}
	s = queue.Done(s, 9)
	s = queue.Done(s, 4)
	s = queue.Done(s, 0)
	for _, r := range []struct {
		e    api.Entry
		want []uint32
	}{{api.Entry{Valid: 1, Uids: []uint32{1, 2, 3, 4, 5}}, []uint32{4, 9}}, {api.Entry{Valid: 1, Uids: []uint32{1}}, []uint32{9}}, {api.Entry{Valid: 1, Uids: []uint32{3}}, nil}, {api.Entry{Valid: 2, Uids: []uint32{1}}, nil}, {api.Entry{}, nil}} {
		if got := queue.Ups(s, r.e); !slices.Equal(got, r.want) {
			t.Errorf("P22.4: Ups(%v): %v; want %v", r.e, got, r.want)
		}
	}
}

func TestRight(t *testing.T) {
	good := func() api.State {
		s := queue.Begin()
		s.Token = 90
		s.Queue = []api.Entry{
			{Token: 1, Kind: api.DoAppend, Box: "a", Valid: 1, Uids: []uint32{3}, Flags: []string{`\Seen`, "a"}, Date: noDate, Body: []byte("x")},
			{Token: 5, Kind: api.DoStore, Box: "a", Valid: 7, Uids: []uint32{1, 4}, Op: 3},
			{Token: 6, Kind: api.DoExpunge, Box: "a", Valid: 7, Uids: []uint32{1, 4}},
			{Token: 7, Kind: api.DoCreate, Box: "a", Valid: 7}, {Token: 8, Kind: api.DoDelete, Box: "a", Valid: 7}, {Token: 9, Kind: api.DoRename, Box: "a", To: "b", Valid: 7}}
		s.Dead = []api.Dead{{Entry: api.Entry{Token: 89, Kind: api.DoCreate, Box: "a", Valid: 7}, Why: 3}, {Entry: api.Entry{Token: 2, Kind: api.DoDelete, Box: "a", Valid: 7}, Why: 1}}
		return s
	}
	right(t, good())
	wrong := []func(s *api.State){
		func(s *api.State) { s.Token = 9 }, func(s *api.State) { s.Token = 0 }, func(s *api.State) { s.Token = 1<<63 + 1 }, func(s *api.State) { s.Image = api.Image{} },
		func(s *api.State) { s.Queue[0].Token = 0 }, func(s *api.State) { s.Queue[1].Token = 6 }, func(s *api.State) { s.Queue[0].Kind = 0 }, func(s *api.State) { s.Queue[0].Kind = 7 },
		func(s *api.State) { s.Queue[0].Box = "" }, func(s *api.State) { s.Queue[0].Valid = 0 }, func(s *api.State) { s.Queue[0].To = "b" }, func(s *api.State) { s.Queue[0].Op = 1 }, func(s *api.State) { s.Queue[0].Uids = nil }, func(s *api.State) { s.Queue[0].Uids = []uint32{1, 2} }, func(s *api.State) { s.Queue[0].Uids = []uint32{0} },
		func(s *api.State) { s.Queue[0].Flags = []string{"A"} }, func(s *api.State) { s.Queue[0].Flags = []string{"$cub1"} }, func(s *api.State) { s.Queue[0].Date = "" }, func(s *api.State) { s.Queue[0].Date = "07-Jul-1996 02:44:25 -0730" }, func(s *api.State) { s.Queue[0].Body = []byte{0} }, func(s *api.State) { s.Queue[0].Body = []byte(strings.Repeat("x", api.MaxLiteral+1)) },
		func(s *api.State) { s.Queue[1].Op = 0 }, func(s *api.State) { s.Queue[1].Op = 4 }, func(s *api.State) { s.Queue[1].Uids = nil }, func(s *api.State) { s.Queue[1].Uids = []uint32{4, 1} }, func(s *api.State) { s.Queue[1].Uids = []uint32{4, 4} }, func(s *api.State) { s.Queue[1].Date = noDate }, func(s *api.State) { s.Queue[1].Body = []byte("x") },
		func(s *api.State) { s.Queue[2].Flags = []string{"a"} }, func(s *api.State) { s.Queue[2].Uids = nil }, func(s *api.State) { s.Queue[3].Uids = []uint32{1} }, func(s *api.State) { s.Queue[4].To = "b" }, func(s *api.State) { s.Queue[5].To = "" }, func(s *api.State) { s.Queue[5].To = "inbox" }, func(s *api.State) { s.Queue[5].Box = "x%" },
		func(s *api.State) { s.Dead[0].Why = 0 }, func(s *api.State) { s.Dead[0].Why = 4 }, func(s *api.State) { s.Dead[0].Entry.Token = 90 }, func(s *api.State) { s.Dead[0].Entry.Token = 0 }, func(s *api.State) { s.Dead[0].Entry.Token = 2 }, func(s *api.State) { s.Dead[1].Entry.Kind = 0 },
		func(s *api.State) {
			s.Queue = nil
			for i := range api.MaxQueue + 1 {
				s.Queue = append(s.Queue, api.Entry{Token: uint64(i + 1), Kind: api.DoCreate, Box: "a", Valid: 7})
			}
			s.Token = 999
		},
		func(s *api.State) {
			for i := range api.MaxQueue {
				s.Dead = append(s.Dead, api.Dead{Entry: api.Entry{Token: uint64(i + 100), Kind: api.DoCreate, Box: "a", Valid: 7}, Why: 1})
			}
			s.Token = 999
		},
	}
	for i, change := range wrong {
		s := good()
		change(&s)
		if queue.Right(s) {
			t.Errorf("P22.1: row %d is not right", i)
		}
	}
}

func TestWhatIsAnsweredIsRight(t *testing.T) {
	r := rand.New(rand.NewSource(22))
	names := []string{"INBOX", "a", "b"}
	for range 60 {
		s := queue.Begin()
		up := uint32(1)
		for range 100 {
			name, other := names[r.Intn(3)], names[r.Intn(3)]
			some := []uint32{uint32(r.Intn(6)), uint32(r.Intn(6))}
			token := s.Token
			switch r.Intn(11) {
			case 0:
				s, _ = queue.Create(s, name)
			case 1:
				s, _ = queue.Delete(s, name)
			case 2:
				s, _ = queue.Rename(s, name, other)
			case 3:
				s, _, _ = queue.Append(s, name, []string{`\Deleted`, "x" + strconv.Itoa(r.Intn(3))}[:r.Intn(3)], "", []byte("b"))
			case 4:
				s, _, _ = queue.Store(s, name, some, 1+r.Intn(3), []string{`\Deleted`})
			case 5:
				s, _, _ = queue.Expunge(s, name, some)
			case 6:
				s, _, _ = queue.Copy(s, name, some, other)
			case 7, 8:
				seen := image.Names(s.Image)
				s = queue.Done(s, uint32(r.Intn(2))*up)
				up++
				if !slices.Equal(seen, image.Names(s.Image)) {
					t.Fatal("what clients see is changed by Done not at all")
				}
			case 9:
				s = queue.Kill(s, 1+r.Intn(3))
			case 10:
				s.Image = image.Merge(s.Image, name, uint32(1+r.Intn(2)), []api.Seen{{Up: uint32(r.Intn(5)), Date: noDate, Size: 1}})
			}
			if !queue.Right(s) || s.Token < token {
				t.Fatalf("P22.1: what is answered is right: %+v", s)
			}
		}
	}
}

func TestUpOne(t *testing.T) {
	s := queue.Done(add(t, queue.Begin(), "INBOX"), 1)
	if h := inbox(s)[0]; h.Up != 1 {
		t.Errorf("P22.3: Done(1): %+v", h)
	}
	if got := queue.Ups(s, api.Entry{Valid: 1, Uids: []uint32{1}}); !slices.Equal(got, []uint32{1}) {
		t.Errorf("P22.4: Ups: %v", got)
	}
	s.Queue = []api.Entry{{Token: 1, Kind: api.DoAppend, Box: "a", Valid: 1, Uids: []uint32{3}, Date: noDate, Body: []byte(strings.Repeat("x", api.MaxLiteral))}}
	if !queue.Right(s) {
		t.Error("P22.1: the longest body")
	}
	s.Token = 1
	if queue.Right(s) {
		t.Error("P22.1: the queue's tokens are below Token")
	}
	dead := func(token uint64) api.Dead {
		return api.Dead{Entry: api.Entry{Token: token, Kind: api.DoCreate, Box: "a", Valid: 7}, Why: 2}
	}
	s.Queue, s.Token = nil, 9
	s.Dead = []api.Dead{dead(5), dead(2), dead(8)}
	if !queue.Right(s) {
		t.Error("P22.1: tokens of the dead need not rise")
	}
	s.Dead[2] = dead(5)
	if queue.Right(s) {
		t.Error("P22.1: no two of the dead have one token")
	}
}

// Entries about what is not as they left it: only what is Gone goes, and INBOX never.
func TestEntriesOfWhatHasChanged(t *testing.T) {
	s := queue.Done(create(t, queue.Begin(), "a"), 0)
	s = queue.Done(add(t, s, "a", `\Deleted`), 4)
	s.Queue = []api.Entry{
		{Token: 1, Kind: api.DoCreate, Box: "INBOX", Valid: 1},
		{Token: 2, Kind: api.DoDelete, Box: "a", Valid: 2},
		{Token: 3, Kind: api.DoExpunge, Box: "a", Valid: 2, Uids: []uint32{1}},
		{Token: 4, Kind: api.DoStore, Box: "z", Valid: 99, Uids: []uint32{1}, Op: 1},
		{Token: 5, Kind: api.DoAppend, Box: "a", Valid: 2, Uids: []uint32{1}, Date: noDate},
		{Token: 6, Kind: api.DoAppend, Box: "a", Valid: 2, Uids: []uint32{77}, Date: noDate},
	}
	s.Token = 7
	right(t, s)
	for _, end := range []func(api.State) api.State{func(s api.State) api.State { return queue.Done(s, 4) }, func(s api.State) api.State { return queue.Kill(s, api.DeadGone) }} {
		x := s
		for len(x.Queue) > 0 {
			x = right(t, end(x))
			if !same(x.Image, s.Image) {
				t.Fatalf("P22.3: %d entries left: %+v", len(x.Queue), x.Image)
			}
		}
	}
	if k := queue.Kill(s, api.DeadEpoch); k.Token != s.Token || len(k.Dead) != 1 || k.Dead[0].Why != api.DeadEpoch {
		t.Errorf("P22.3: Kill: %+v", k)
	}
}

func TestOtherFoldersStay(t *testing.T) {
	s := queue.Done(create(t, queue.Begin(), "a"), 0)
	s = add(t, add(t, s, "a"), "INBOX")
	d := right(t, queue.Done(s, 9))
	if a := d.Image.Folders[1].List[0]; a.Up != 9 || d.Image.Folders[0].List[0].Up != 0 {
		t.Errorf("P22.3: the message of the folder of its validity: %+v", d.Image)
	}
	d = right(t, queue.Done(d, 9))
	if d.Image.Folders[0].List[0].Up != 9 {
		t.Errorf("P22.3: another folder's Ups play no part: %+v", d.Image)
	}
	k := right(t, queue.Kill(s, api.DeadGone))
	if len(k.Image.Folders[0].List) != 1 || len(k.Image.Folders[1].List) != 0 {
		t.Errorf("P22.3: Kill: %+v", k.Image)
	}
}
