package house_test

import (
	"slices"
	"strconv"
	"strings"
	"testing"

	"cubby/api"
	"cubby/house"
)

func box(t *testing.T, h *house.House, name string) api.Box {
	t.Helper()
	b, ok := h.Box(name)
	if !ok || b.Name != name {
		t.Fatalf("P18.3: Box(%q)", name)
	}
	return b
}

func put(t *testing.T, h *house.House, name string, l ...string) uint32 {
	t.Helper()
	uid, e := h.Append(name, l, "", []byte("x"))
	if e != api.OK {
		t.Fatalf("P18.2: Append: %d", e)
	}
	return uid
}

func TestNew(t *testing.T) {
	h := house.New()
	b := box(t, h, "INBOX")
	if b.Valid != 1 || b.Next != 1 || len(b.Msgs) != 0 || !slices.Equal(h.Names(), []string{"INBOX"}) {
		t.Errorf("P18.1: New: %+v", b)
	}
}

func TestBoxes(t *testing.T) {
	h := house.New()
	for name, want := range map[string]api.Errno{"": api.ErrForm, "inbox": api.ErrForm, "a%": api.ErrForm, "\xff": api.ErrForm, "INBOX": api.ErrTwice} {
		if e := h.Create(name); e != want {
			t.Errorf("P18.1: Create(%q): %d", name, e)
		}
	}
	if h.Create("b") != api.OK || h.Create("a") != api.OK || h.Create("b") != api.ErrTwice {
		t.Error("P18.1: Create")
	}
	if box(t, h, "b").Valid != 2 || box(t, h, "a").Valid != 3 || !slices.Equal(h.Names(), []string{"INBOX", "a", "b"}) {
		t.Errorf("P18.3: %q", h.Names())
	}
	put(t, h, "a")
	put(t, h, "a")
	rows := []struct {
		from, to string
		want     api.Errno
	}{
		{"none", "a%", api.ErrForm}, {"none", "a", api.ErrNone}, {"INBOX", "a", api.ErrState}, {"INBOX", "new", api.ErrState}, {"a", "b", api.ErrTwice}, {"a", "a", api.ErrTwice}, {"a", "INBOX", api.ErrTwice}, {"a", "c/d", api.OK}, {"a", "e", api.ErrNone},
	}
	for _, r := range rows {
		if e := h.Rename(r.from, r.to); e != r.want {
			t.Errorf("P18.1: Rename(%q, %q): %d; want %d", r.from, r.to, e, r.want)
		}
	}
	c := box(t, h, "c/d")
	if c.Valid != 3 || c.Next != 3 || len(c.Msgs) != 2 {
		t.Errorf("P18.1: behind Rename: %+v", c)
	}
	if h.Delete("a") != api.ErrNone || h.Delete("INBOX") != api.ErrState || h.Delete("c/d") != api.OK || h.Delete("c/d") != api.ErrNone {
		t.Error("P18.1: Delete")
	}
	if h.Create("a") != api.OK || box(t, h, "a").Valid != 4 || box(t, h, "a").Next != 1 {
		t.Error("P18.1: each that is made has the next validity")
	}
	put(t, h, "a")
	if h.Reset("none") != api.ErrNone || h.Reset("a") != api.OK || h.Reset("INBOX") != api.OK {
		t.Error("P18.1: Reset")
	}
	if a := box(t, h, "a"); a.Valid != 5 || a.Next != 1 || len(a.Msgs) != 0 {
		t.Errorf("P18.1: behind Reset: %+v", a)
	}
	if box(t, h, "INBOX").Valid != 6 {
		t.Error("P18.1: Reset of INBOX")
	}
}

func TestMostBoxes(t *testing.T) {
	h := house.New()
	for i := 1; i < api.MaxBoxes; i++ {
		if e := h.Create("b" + strconv.Itoa(i)); e != api.OK {
			t.Fatalf("P18.1: Create %d: %d", i, e)
		}
	}
	if h.Create("more") != api.ErrFull || h.Create("b1") != api.ErrTwice || h.Create("%") != api.ErrForm {
		t.Error("P18.1: as many as may be")
	}
	h.Delete("b1")
	if h.Create("more") != api.OK {
		t.Error("P18.1: room again")
	}
}

func TestAppend(t *testing.T) {
	h := house.New()
	h.Create("a")
	long := make([]byte, api.MaxLiteral+1)
	for i := range long {
		long[i] = 'x'
	}
	many := strings.Split(strings.Repeat("k ", 16)+"k", " ")
	for i := range many {
		many[i] += strconv.Itoa(i)
	}
	rows := []struct {
		box  string
		l    []string
		date string
		body []byte
		want api.Errno
	}{
		{"none", []string{"a b"}, "x", nil, api.ErrNone}, {"a", nil, "today", nil, api.ErrForm}, {"a", many, "", []byte{'a', 0}, api.ErrForm}, {"a", nil, "", []byte{0}, api.ErrForm}, {"a", nil, "", []byte{0, 'a'}, api.ErrForm}, {"a", []string{"a b"}, "", long, api.ErrForm}, {"a", many, "", long, api.ErrLong}, {"a", nil, "", long, api.ErrLong},
	}
	for i, r := range rows {
		if uid, e := h.Append(r.box, r.l, r.date, r.body); uid != 0 || e != r.want {
			t.Errorf("P18.2: row %d: %d; want %d", i, e, r.want)
		}
	}
	in := []byte("hello")
	l := []string{"Foo", `\seen`, "FOO", "$CUB9"}
	if uid, e := h.Append("a", l, "07-Jul-1996 02:44:25 -0730", in); uid != 1 || e != api.OK {
		t.Errorf("P18.2: Append: %d, %d", uid, e)
	}
	in[0], l[0] = 'z', "z"
	if uid, e := h.Append("a", nil, "", long[:api.MaxLiteral]); uid != 2 || e != api.OK {
		t.Errorf("P18.2: the longest: %d, %d", uid, e)
	}
	b := box(t, h, "a")
	m := b.Msgs[0]
	if b.Next != 3 || m.Uid != 1 || !slices.Equal(m.Flags, []string{"$cub9", `\Seen`, "foo"}) || m.Date != " 7-Jul-1996 02:44:25 -0730" || string(m.Body) != "hello" {
		t.Errorf("P18.2: %+v", m)
	}
	if b.Msgs[1].Date != " 1-Jan-1970 00:00:00 +0000" {
		t.Errorf("P18.2: without a date: %q", b.Msgs[1].Date)
	}
	m.Body[0], m.Flags[0] = 'q', "q"
	if n := box(t, h, "a").Msgs[0]; n.Body[0] != 'h' || n.Flags[0] != "$cub9" {
		t.Error("R3: what is handed out is new")
	}
	for range api.MaxMsgs {
		put(t, h, "INBOX")
	}
	if _, e := h.Append("INBOX", nil, "", nil); e != api.ErrFull {
		t.Errorf("P18.2: as many as may be: %d", e)
	}
	if _, e := h.Append("INBOX", nil, "", long); e != api.ErrLong {
		t.Errorf("P18.2: ErrLong is named ahead of ErrFull: %d", e)
	}
}

func TestStoreAndExpunge(t *testing.T) {
	h := house.New()
	for range 4 {
		put(t, h, "INBOX", "$cub1")
	}
	if h.Store("none", 1, api.AddFlags, nil) != api.ErrNone || h.Store("INBOX", 5, 9, nil) != api.ErrNone || h.Store("INBOX", 0, 1, nil) != api.ErrNone {
		t.Error("P18.2: Store of what is not there")
	}
	if h.Store("INBOX", 1, 9, nil) != api.ErrArg || h.Store("INBOX", 1, api.SetFlags, []string{"a b"}) != api.ErrForm {
		t.Error("P18.2: flags.Do's errors")
	}
	if h.Store("INBOX", 1, api.SetFlags, []string{"X", `\DELETED`}) != api.OK || h.Store("INBOX", 3, api.AddFlags, []string{`\Deleted`}) != api.OK || h.Store("INBOX", 1, api.RemoveFlags, []string{"x"}) != api.OK {
		t.Error("P18.2: Store")
	}
	if m := box(t, h, "INBOX").Msgs[0]; !slices.Equal(m.Flags, []string{"$cub1", `\Deleted`}) {
		t.Errorf("P18.2: Store: %q", m.Flags)
	}
	if _, e := h.Expunge("none", nil); e != api.ErrNone {
		t.Error("P18.2: Expunge of none")
	}
	if got, e := h.Expunge("INBOX", []uint32{2, 4}); e != api.OK || len(got) != 0 {
		t.Errorf("P18.2: Expunge: %v", got)
	}
	if got, e := h.Expunge("INBOX", []uint32{9, 3, 2, 1, 3}); e != api.OK || !slices.Equal(got, []uint32{1, 3}) {
		t.Errorf("P18.2: Expunge: %v", got)
	}
	b := box(t, h, "INBOX")
	if len(b.Msgs) != 2 || b.Msgs[0].Uid != 2 || b.Msgs[1].Uid != 4 || put(t, h, "INBOX") != 5 {
		t.Error("P18.2: a UID is never given twice")
	}
}

func TestExample(t *testing.T) {
	h := house.New()
	if put(t, h, "INBOX") != 1 || h.Store("INBOX", 1, api.AddFlags, []string{`\Deleted`}) != api.OK {
		t.Fatal("P18.2")
	}
	if got, _ := h.Expunge("INBOX", []uint32{1}); !slices.Equal(got, []uint32{1}) || put(t, h, "INBOX") != 2 {
		t.Error("P18.2: the example")
	}
}

func TestFork(t *testing.T) {
	h := house.New()
	h.Create("a")
	put(t, h, "a", "x")
	f := h.Fork()
	f.Store("a", 1, api.SetFlags, []string{"y"})
	f.Create("b")
	f.Delete("INBOX")
	put(t, f, "a")
	if !slices.Equal(h.Names(), []string{"INBOX", "a"}) || len(box(t, h, "a").Msgs) != 1 || box(t, h, "a").Msgs[0].Flags[0] != "x" {
		t.Error("P18.3: a fork is another one")
	}
	h.Create("b")
	if box(t, h, "b").Valid != 3 || box(t, f, "b").Valid != 3 {
		t.Error("P18.3: a fork is alike")
	}
}

func TestNil(t *testing.T) {
	var h *house.House
	if h.Create("") != api.ErrNil || h.Delete("") != api.ErrNil || h.Rename("", "") != api.ErrNil || h.Reset("") != api.ErrNil || h.Store("", 0, 0, nil) != api.ErrNil || h.Names() != nil || h.Fork() != nil {
		t.Error("P18.3: of nil")
	}
	if uid, e := h.Append("", nil, "", nil); uid != 0 || e != api.ErrNil {
		t.Error("P18.3: Append of nil")
	}
	if l, e := h.Expunge("", nil); l != nil || e != api.ErrNil {
		t.Error("P18.3: Expunge of nil")
	}
	if b, ok := h.Box("INBOX"); ok || b.Name != "" {
		t.Error("P18.3: Box of nil")
	}
	if b, ok := house.New().Box("none"); ok || b.Name != "" || b.Valid != 0 {
		t.Error("R4: Box of none")
	}
}
