package image_test

import (
	"math"
	"math/rand"
	"reflect"
	"slices"
	"strconv"
	"strings"
	"testing"

	"cubby/api"
	"cubby/image"
)

const noDate = " 1-Jan-1970 00:00:00 +0000"

func plain(v reflect.Value) {
	switch v.Kind() {
	case reflect.Struct:
		for i := range v.NumField() {
			plain(v.Field(i))
		}
	case reflect.Slice:
		if v.Len() == 0 {
			v.SetZero()
		}
		for i := range v.Len() {
			plain(v.Index(i))
		}
	}
}

func same[T any](a, b T) bool {
	plain(reflect.ValueOf(&a).Elem())
	plain(reflect.ValueOf(&b).Elem())
	return reflect.DeepEqual(a, b)
}

func right(t *testing.T, m api.Image) api.Image {
	t.Helper()
	if !image.Right(m) {
		t.Fatalf("P21.1: what is answered is right: %+v", m)
	}
	return m
}

func create(t *testing.T, m api.Image, names ...string) api.Image {
	t.Helper()
	for _, n := range names {
		var e api.Errno
		if m, e = image.Create(m, n); e != api.OK {
			t.Fatalf("P21.2: Create(%q): %d", n, e)
		}
	}
	return right(t, m)
}

func add(t *testing.T, m api.Image, box, body string, l ...string) api.Image {
	t.Helper()
	out, _, e := image.Add(m, box, l, "", []byte(body))
	if e != api.OK {
		t.Fatalf("P21.3: Add: %d", e)
	}
	return right(t, out)
}

func folder(t *testing.T, m api.Image, name string) api.Folder {
	t.Helper()
	i := image.Find(m, name)
	if i < 0 {
		t.Fatalf("P21.1: Find(%q)", name)
	}
	return m.Folders[i]
}

func uids(l []api.Held) []uint32 {
	var out []uint32
	for _, h := range l {
		out = append(out, h.Uid)
	}
	return out
}

func seen(up uint32, size int, l ...string) api.Seen {
	return api.Seen{Up: up, Flags: l, Date: noDate, Size: size}
}

func TestBegin(t *testing.T) {
	want := api.Image{Folders: []api.Folder{{Name: "INBOX", Valid: 1, Next: 1}}, Valid: 2}
	if m := right(t, image.Begin()); !same(m, want) {
		t.Errorf("P21.1: Begin: %+v", m)
	}
}

func TestFolders(t *testing.T) {
	m := create(t, image.Begin(), "b", "a")
	if !slices.Equal(image.Names(m), []string{"INBOX", "a", "b"}) || image.Find(m, "b") != 2 || image.By(m, 3) != 1 || image.By(m, 9) != -1 || image.Find(m, "c") != -1 || m.Valid != 4 {
		t.Errorf("P21.1: %+v", m)
	}
	for name, want := range map[string]api.Errno{"a%": api.ErrForm, "inbox": api.ErrForm, "": api.ErrForm, "INBOX": api.ErrTwice, "a": api.ErrTwice} {
		if got, e := image.Create(m, name); e != want || !same(got, m) {
			t.Errorf("P21.2: Create(%q): %d", name, e)
		}
	}
	for name, want := range map[string]api.Errno{"none": api.ErrNone, "INBOX": api.ErrState} {
		if got, e := image.Delete(m, name); e != want || !same(got, m) {
			t.Errorf("P21.2: Delete(%q): %d", name, e)
		}
	}
	rows := []struct {
		from, to string
		want     api.Errno
	}{{"none", "%", api.ErrForm}, {"none", "a", api.ErrNone}, {"INBOX", "a", api.ErrState}, {"a", "b", api.ErrTwice}, {"a", "a", api.ErrTwice}}
	for _, r := range rows {
		if got, e := image.Rename(m, r.from, r.to); e != r.want || !same(got, m) {
			t.Errorf("P21.2: Rename(%q, %q): %d", r.from, r.to, e)
		}
	}
	n, e := image.Rename(m, "a", "z")
	if e != api.OK || !slices.Equal(image.Names(right(t, n)), []string{"INBOX", "b", "z"}) || folder(t, n, "z").Valid != 3 {
		t.Errorf("P21.2: Rename: %+v", n)
	}
	n, e = image.Delete(n, "z")
	if e != api.OK || image.Find(right(t, n), "z") != -1 || image.By(n, 3) != 2 || !n.Folders[2].Gone {
		t.Errorf("P21.2: Delete: %+v", n)
	}
	if n = create(t, n, "z"); folder(t, n, "z").Valid != 4 || len(n.Folders) != 4 {
		t.Errorf("P21.2: a folder of a name that is gone: %+v", n)
	}
	if !slices.Equal(image.Names(m), []string{"INBOX", "a", "b"}) {
		t.Error("R3: what is handed in is changed")
	}
}

func TestRoomForFolders(t *testing.T) {
	m := image.Begin()
	for i := 1; i < api.MaxBoxes; i++ {
		m = create(t, m, "b"+strconv.Itoa(i))
	}
	if got, e := image.Create(m, "x"); e != api.ErrFull || !same(got, m) {
		t.Errorf("P21.2: as many as clients may see: %d", e)
	}
	for range api.MaxBoxes {
		m, _ = image.Delete(m, "b1")
		m = create(t, m, "b1")
	}
	m, _ = image.Delete(m, "b1")
	if len(m.Folders) != 2*api.MaxBoxes {
		t.Fatal("the test's folders")
	}
	if _, e := image.Create(m, "x"); e != api.ErrFull {
		t.Errorf("P21.2: twice as many: %d", e)
	}
	m = image.Begin()
	m.Valid = math.MaxUint32
	if _, e := image.Create(right(t, m), "x"); e != api.ErrOver {
		t.Errorf("P21.2: no validity is left: %d", e)
	}
	m.Valid--
	create(t, m, "x")
}

func TestAdd(t *testing.T) {
	m := image.Begin()
	m.Clock = 5
	long := []byte(strings.Repeat("x", api.MaxLiteral+1))
	many := make([]string, 17)
	for i := range many {
		many[i] = "k" + strconv.Itoa(i)
	}
	rows := []struct {
		box  string
		l    []string
		date string
		body []byte
		want api.Errno
	}{{"none", many, "x", long, api.ErrNone}, {"INBOX", many, "x", long, api.ErrForm}, {"INBOX", many, "", []byte{0}, api.ErrForm}, {"INBOX", []string{"a b"}, "", long, api.ErrForm}, {"INBOX", many, "", long, api.ErrLong}, {"INBOX", nil, "", long, api.ErrLong}}
	for i, r := range rows {
		if got, uid, e := image.Add(m, r.box, r.l, r.date, r.body); uid != 0 || e != r.want || !same(got, m) {
			t.Errorf("P21.3: row %d: %d; want %d", i, e, r.want)
		}
	}
	body, l := []byte("hi"), []string{"Foo", `\SEEN`, "$cub7"}
	n, uid, e := image.Add(m, "INBOX", l, "07-Jul-1996 02:44:25 -0730", body)
	body[0], l[0] = 'z', "z"
	want := api.Held{Uid: 1, Flags: []string{`\Seen`, "foo"}, Date: " 7-Jul-1996 02:44:25 -0730", Size: 2, Has: true, Body: []byte("hi"), Used: 5}
	f := folder(t, right(t, n), "INBOX")
	if uid != 1 || e != api.OK || f.Next != 2 || len(f.List) != 1 || !same(f.List[0], want) {
		t.Errorf("P21.3: Add: %+v", f)
	}
	if n = add(t, n, "INBOX", ""); folder(t, n, "INBOX").List[1].Date != noDate {
		t.Error("P21.3: without a date")
	}
	n.Folders[0].Next = math.MaxUint32
	if got, _, e := image.Add(right(t, n), "INBOX", nil, "", nil); e != api.ErrOver || !same(got, n) {
		t.Errorf("P21.3: no UID is left: %d", e)
	}
	n.Folders[0].Next--
	if _, uid, e := image.Add(n, "INBOX", nil, "", nil); e != api.OK || uid != api.MaxUid {
		t.Errorf("P21.3: the last UID: %d, %d", uid, e)
	}
	m = image.Begin()
	for range api.MaxMsgs {
		m, _, _ = image.Add(m, "INBOX", []string{`\Deleted`}, "", nil)
	}
	if _, _, e := image.Add(m, "INBOX", nil, "", nil); e != api.ErrFull {
		t.Errorf("P21.3: as many as clients may see: %d", e)
	}
	all := uids(folder(t, m, "INBOX").List)
	m, _, _ = image.Expunge(m, "INBOX", all)
	for range api.MaxMsgs - 1 {
		m, _, _ = image.Add(m, "INBOX", []string{`\Deleted`}, "", nil)
	}
	m = add(t, m, "INBOX", "")
	all = uids(folder(t, m, "INBOX").List)
	m, _, _ = image.Expunge(m, "INBOX", all)
	if _, _, e := image.Add(right(t, m), "INBOX", nil, "", nil); e != api.ErrFull {
		t.Errorf("P21.3: twice as many: %d", e)
	}
}

func TestStoreAndExpunge(t *testing.T) {
	m := image.Begin()
	for range 4 {
		m = add(t, m, "INBOX", "x", "a")
	}
	if _, _, e := image.Store(m, "none", nil, 9, nil); e != api.ErrNone {
		t.Errorf("P21.3: Store: %d", e)
	}
	if got, l, e := image.Store(m, "INBOX", []uint32{9}, 9, []string{"a b"}); e != api.OK || len(l) != 0 || !same(got, m) {
		t.Errorf("P21.3: Store of none: %d", e)
	}
	if got, l, e := image.Store(m, "INBOX", []uint32{1}, 9, nil); e != api.ErrArg || l != nil || !same(got, m) {
		t.Errorf("P21.3: flags.Do's error: %d", e)
	}
	n, l, e := image.Store(m, "INBOX", []uint32{3, 1, 1, 7}, api.AddFlags, []string{`\DELETED`, "$cub4"})
	f := folder(t, right(t, n), "INBOX")
	if e != api.OK || !slices.Equal(l, []uint32{1, 3}) || !slices.Equal(f.List[0].Flags, []string{`\Deleted`, "a"}) || len(f.List[1].Flags) != 1 || len(f.List[2].Flags) != 2 {
		t.Errorf("P21.3: Store: %v, %+v", l, f)
	}
	full := make([]string, 16)
	for i := range full {
		full[i] = "k" + strconv.Itoa(10+i)
	}
	k, _, _ := image.Store(n, "INBOX", []uint32{2}, api.SetFlags, full)
	if got, l, e := image.Store(k, "INBOX", []uint32{1, 2}, api.AddFlags, []string{"z"}); e != api.ErrLong || l != nil || !same(got, k) {
		t.Errorf("P21.3: none is changed: %d", e)
	}
	if _, _, e := image.Expunge(n, "none", nil); e != api.ErrNone {
		t.Error("P21.3: Expunge")
	}
	g, l, e := image.Expunge(n, "INBOX", []uint32{4, 3, 2})
	if f = folder(t, right(t, g), "INBOX"); e != api.OK || !slices.Equal(l, []uint32{3}) || !f.List[2].Gone || f.List[0].Gone || len(f.List) != 4 {
		t.Errorf("P21.3: Expunge: %v", l)
	}
	if !slices.Equal(uids(image.See(f)), []uint32{1, 2, 4}) {
		t.Errorf("P21.1: See: %v", uids(image.See(f)))
	}
	if _, l, e = image.Store(g, "INBOX", []uint32{3}, api.SetFlags, nil); e != api.OK || len(l) != 0 {
		t.Error("P21.3: what is gone is not stored")
	}
	if _, l, e = image.Expunge(g, "INBOX", []uint32{3}); e != api.OK || len(l) != 0 {
		t.Error("P21.3: what is gone is not expunged")
	}
	image.See(f)[0].Flags[0] = "q"
	if f.List[0].Flags[0] == "q" {
		t.Error("R3: what is handed out is new")
	}
}

func TestMerge(t *testing.T) {
	m := add(t, image.Begin(), "INBOX", "x")
	m.Clock = 8
	if got := image.Merge(m, "none", 7, []api.Seen{seen(4, 1)}); !same(got, m) {
		t.Error("P21.4: Merge of none")
	}
	m = right(t, image.Merge(m, "INBOX", 7, []api.Seen{seen(9, 2, "B"), seen(4, 3, `\seen`, "$cub3"), seen(9, 5, "c"), seen(0, 1)}))
	f := folder(t, m, "INBOX")
	want := []api.Held{{Uid: 2, Up: 4, Flags: []string{`\Seen`}, Date: noDate, Size: 3, Used: 8}, {Uid: 3, Up: 9, Flags: []string{"b"}, Date: noDate, Size: 2, Used: 8}}
	if f.Up != 7 || f.Valid != 1 || f.Next != 4 || !same(f.List, want) {
		t.Fatalf("P21.4: %+v", f)
	}
	m = image.Fill(m, api.Want{Valid: 1, Uid: 2}, []byte("abc"))
	m, _, _ = image.Store(m, "INBOX", []uint32{3}, api.AddFlags, []string{`\Deleted`})
	m, _, _ = image.Expunge(m, "INBOX", []uint32{3})
	m = add(t, m, "INBOX", "y")
	bad := seen(20, 1)
	bad.Date = "x"
	long := seen(23, 1, strings.Split(strings.Repeat("k,", 20), ",")...)
	for i := range long.Flags {
		long.Flags[i] = "k" + strconv.Itoa(i)
	}
	m = right(t, image.Merge(m, "INBOX", 7, []api.Seen{bad, seen(21, -1), seen(22, api.MaxLiteral+1), long, seen(24, 0, "a b"), seen(9, 2), seen(30, api.MaxLiteral), {Up: 4, Flags: long.Flags, Date: "q", Size: -5}}))
	f = folder(t, m, "INBOX")
	if f.Next != 7 || !slices.Equal(uids(f.List), []uint32{2, 5, 6}) || f.List[1].Up != 9 || f.List[2].Up != 30 {
		t.Fatalf("P21.4: those that stay, and new ones: %+v", f)
	}
	if h := f.List[0]; !slices.Equal(h.Flags, []string{`\Seen`}) || !h.Has || string(h.Body) != "abc" || h.Size != 3 || h.Date != noDate {
		t.Errorf("P21.4: flags that flags.All refuses stay: %+v", h)
	}
	m = image.Merge(m, "INBOX", 7, []api.Seen{seen(4, 1, "$cub1")})
	if f = folder(t, m, "INBOX"); len(f.List) != 1 || len(f.List[0].Flags) != 0 {
		t.Errorf("P21.4: flags are upstream's: %+v", f)
	}
}

func TestMergeOfAnotherValidity(t *testing.T) {
	m := create(t, image.Begin(), "a")
	m, _ = image.Delete(m, "a")
	m = create(t, m, "a")
	m = image.Merge(m, "a", 7, []api.Seen{seen(4, 1)})
	n := right(t, image.Merge(m, "a", 8, []api.Seen{seen(4, 1)}))
	f := folder(t, n, "a")
	if f.Valid != 4 || n.Valid != 5 || f.Next != 2 || f.Up != 8 || image.By(n, 3) != -1 || image.By(n, 2) < 0 || len(f.List) != 1 {
		t.Errorf("P21.4: a new folder in the place of the elder one: %+v", n)
	}
	m.Valid = math.MaxUint32
	if got := image.Merge(m, "a", 8, []api.Seen{seen(4, 1)}); !same(got, m) {
		t.Error("P21.4: no validity is left")
	}
}

func TestMergeRoom(t *testing.T) {
	var l []api.Seen
	for i := range uint32(api.MaxMsgs + 20) {
		l = append(l, seen(i+1, 0))
	}
	m := right(t, image.Merge(image.Begin(), "INBOX", 1, l))
	if n := len(m.Folders[0].List); n != api.MaxMsgs {
		t.Errorf("P21.4: as far as there is room: %d", n)
	}
	m = image.Begin()
	m.Folders[0].Next = math.MaxUint32 - 2
	m = right(t, image.Merge(m, "INBOX", 1, l))
	if f := m.Folders[0]; len(f.List) != 2 || f.Next != math.MaxUint32 {
		t.Errorf("P21.4: as far as Next allows: %d", len(f.List))
	}
}

func TestOnly(t *testing.T) {
	m := create(t, image.Begin(), "a", "b", "c")
	m, _ = image.Delete(m, "b")
	n := right(t, image.Only(m, []string{"c", "z", "b", "z", "x%", "inbox"}))
	if !slices.Equal(image.Names(n), []string{"INBOX", "b", "c", "z"}) || len(n.Folders) != 4 || folder(t, n, "b").Valid != 5 || folder(t, n, "c").Valid != 4 || folder(t, n, "z").Valid != 6 {
		t.Errorf("P21.4: Only: %+v", n)
	}
	if n = image.Only(m, nil); !slices.Equal(image.Names(n), []string{"INBOX"}) || len(n.Folders) != 1 {
		t.Errorf("P21.4: INBOX stays: %+v", n)
	}
	var names []string
	for i := range 40 {
		names = append(names, "b"+strconv.Itoa(10+i))
	}
	if n = right(t, image.Only(m, names)); len(image.Names(n)) != api.MaxBoxes || image.Find(n, "b32") < 0 || image.Find(n, "b33") >= 0 {
		t.Errorf("P21.4: as far as there is room: %q", image.Names(n))
	}
	m.Valid = math.MaxUint32 - 1
	if n = right(t, image.Only(m, []string{"x", "w"})); image.Find(n, "w") < 0 || image.Find(n, "x") >= 0 {
		t.Errorf("P21.4: as far as validities go: %q", image.Names(n))
	}
}

func TestFillAndUse(t *testing.T) {
	m := image.Merge(image.Begin(), "INBOX", 1, []api.Seen{seen(4, 2), seen(5, 0)})
	w := api.Want{Valid: 1, Uid: 1}
	for _, x := range []struct {
		w api.Want
		b string
	}{{w, "a"}, {w, "abc"}, {api.Want{Valid: 2, Uid: 1}, "ab"}, {api.Want{Valid: 1, Uid: 7}, "ab"}} {
		if got := image.Fill(m, x.w, []byte(x.b)); !same(got, m) {
			t.Errorf("P21.5: Fill(%v, %q)", x.w, x.b)
		}
	}
	b := []byte("ab")
	n := right(t, image.Fill(m, w, b))
	b[0] = 'z'
	if h := n.Folders[0].List[0]; !h.Has || string(h.Body) != "ab" || h.Used != 1 || n.Clock != 1 {
		t.Errorf("P21.5: Fill: %+v", h)
	}
	if got := image.Fill(n, w, []byte("cd")); !same(got, n) {
		t.Error("P21.5: its bytes are there already")
	}
	n = right(t, image.Fill(n, api.Want{Valid: 1, Uid: 2}, nil))
	if h := n.Folders[0].List[1]; !h.Has || h.Used != 2 {
		t.Errorf("P21.5: Fill of no bytes: %+v", h)
	}
	n = right(t, image.Use(n, w))
	if n.Clock != 3 || n.Folders[0].List[0].Used != 3 {
		t.Errorf("P21.5: Use: %+v", n)
	}
	if got := image.Use(n, api.Want{Valid: 9, Uid: 1}); !same(got, n) {
		t.Error("P21.5: Use of none")
	}
	n.Clock = 1 << 62
	n = right(t, image.Use(n, w))
	if n.Clock != 1<<62 || n.Folders[0].List[0].Used != 1<<62 {
		t.Errorf("P21.5: at 2^62 Clock stays: %d", n.Clock)
	}
}

func TestEvict(t *testing.T) {
	m := create(t, image.Begin(), "a")
	m = image.Merge(m, "INBOX", 1, []api.Seen{seen(1, 4), seen(2, 4)})
	m = image.Merge(m, "a", 2, []api.Seen{seen(1, 4)})
	m = image.Fill(m, api.Want{Valid: 1, Uid: 1}, []byte("aaaa"))
	m = image.Fill(m, api.Want{Valid: 2, Uid: 1}, []byte("bbbb"))
	m = image.Fill(m, api.Want{Valid: 1, Uid: 2}, []byte("cccc"))
	m = add(t, m, "INBOX", "dddd")
	m = image.Use(m, api.Want{Valid: 1, Uid: 1})
	has := func(m api.Image) string {
		out := ""
		for _, f := range m.Folders {
			for _, h := range f.List {
				if h.Has {
					out += string(h.Body[:1])
				}
			}
		}
		return out
	}
	for _, r := range []struct {
		budget int
		want   string
	}{{16, "acdb"}, {1 << 40, "acdb"}, {15, "acd"}, {12, "acd"}, {11, "ad"}, {7, "d"}, {0, "d"}, {-9, "d"}} {
		if got := has(right(t, image.Evict(m, r.budget))); got != r.want {
			t.Errorf("P21.5: Evict(%d): %q; want %q", r.budget, got, r.want)
		}
	}
}

func TestRight(t *testing.T) {
	good := func() api.Image {
		m := image.Begin()
		m.Folders = append(m.Folders, api.Folder{Name: "a", Valid: 2, Next: 5, Up: 9, List: []api.Held{
			{Uid: 1, Up: 3, Flags: []string{`\Seen`, "a"}, Date: noDate, Size: 2, Has: true, Body: []byte("xy"), Used: 1},
			{Uid: 2, Date: noDate, Has: true}, {Uid: 4, Up: 2, Date: noDate, Size: api.MaxLiteral}}}, api.Folder{Name: "a", Valid: 3, Next: 1, Gone: true})
		m.Valid, m.Clock = 4, 1
		return m
	}
	if !image.Right(good()) {
		t.Fatal("P21.1: Right")
	}
	wrong := []func(m *api.Image){
		func(m *api.Image) { m.Clock = 0 }, func(m *api.Image) { m.Clock = -1 }, func(m *api.Image) { m.Clock = 1<<62 + 1 }, func(m *api.Image) { m.Valid = 3 },
		func(m *api.Image) { m.Folders[0].Valid = 0 }, func(m *api.Image) { m.Folders[0].Valid = 2 }, func(m *api.Image) { m.Folders[0].Name = "inbox" }, func(m *api.Image) { m.Folders[0].Gone = true }, func(m *api.Image) { m.Folders = m.Folders[1:] },
		func(m *api.Image) { m.Folders[1].Name = "b" }, func(m *api.Image) { m.Folders[2].Gone = false }, func(m *api.Image) { m.Folders[1].Name = "a%"; m.Folders[2].Name = "b" }, func(m *api.Image) { slices.Reverse(m.Folders) },
		func(m *api.Image) { m.Folders[1].Next = 4 }, func(m *api.Image) { m.Folders[2].Next = 0 },
		func(m *api.Image) { m.Folders[1].List[0].Uid = 0 }, func(m *api.Image) { m.Folders[1].List[1].Uid = 1 }, func(m *api.Image) { m.Folders[1].List[0].Up = 2 },
		func(m *api.Image) { m.Folders[1].List[0].Flags = []string{"a", `\Seen`} }, func(m *api.Image) { m.Folders[1].List[0].Flags = []string{"A"} }, func(m *api.Image) { m.Folders[1].List[0].Flags = []string{"$cub1"} }, func(m *api.Image) { m.Folders[1].List[0].Flags = []string{"a b"} },
		func(m *api.Image) { m.Folders[1].List[0].Date = "" }, func(m *api.Image) { m.Folders[1].List[0].Date = "01-Jan-1970 00:00:00 +0000" }, func(m *api.Image) { m.Folders[1].List[2].Size = -1 }, func(m *api.Image) { m.Folders[1].List[2].Size++ }, func(m *api.Image) { m.Folders[1].List[0].Size = 1 },
		func(m *api.Image) { m.Folders[1].List[1].Has = false }, func(m *api.Image) { m.Folders[1].List[2].Body = []byte("x") }, func(m *api.Image) { m.Folders[1].List[0].Used = 2 }, func(m *api.Image) { m.Folders[1].List[0].Used = -1 },
		func(m *api.Image) {
			for i := range 2 * api.MaxBoxes {
				m.Folders = append(m.Folders, api.Folder{Name: "b", Valid: uint32(i + 4), Next: 1, Gone: true})
			}
			m.Valid = 999
		},
		func(m *api.Image) {
			for i := range api.MaxMsgs {
				m.Folders[1].List = append(m.Folders[1].List, api.Held{Uid: uint32(i + 5), Date: noDate, Has: true})
			}
			m.Folders[1].Next = 999
		},
		func(m *api.Image) {
			for i := range 2 * api.MaxMsgs {
				m.Folders[1].List = append(m.Folders[1].List, api.Held{Uid: uint32(i + 5), Date: noDate, Has: true, Gone: true})
			}
			m.Folders[1].Next = 999
		},
	}
	for i, change := range wrong {
		m := good()
		change(&m)
		if image.Right(m) {
			t.Errorf("P21.1: row %d is not right", i)
		}
	}
	if image.Right(api.Image{}) {
		t.Error("P21.1: the zero value is not right")
	}
}

func TestWhatIsAnsweredIsRight(t *testing.T) {
	r := rand.New(rand.NewSource(21))
	names := []string{"INBOX", "a", "b", "c/d"}
	for range 60 {
		m := image.Begin()
		for range 80 {
			before := m
			name := names[r.Intn(len(names))]
			some := []uint32{uint32(r.Intn(6)), uint32(r.Intn(6))}
			switch r.Intn(11) {
			case 0:
				m, _ = image.Create(m, name)
			case 1:
				m, _ = image.Delete(m, name)
			case 2:
				m, _ = image.Rename(m, name, names[r.Intn(len(names))])
			case 3, 4:
				m, _, _ = image.Add(m, name, []string{"x", `\Deleted`}[:r.Intn(3)], "", []byte("body"))
			case 5:
				m, _, _ = image.Store(m, name, some, 1+r.Intn(3), []string{`\Deleted`})
			case 6:
				m, _, _ = image.Expunge(m, name, some)
			case 7:
				var l []api.Seen
				for range r.Intn(6) {
					l = append(l, seen(uint32(r.Intn(8)), r.Intn(5), "x"))
				}
				m = image.Merge(m, name, uint32(1+r.Intn(2)), l)
			case 8:
				m = image.Only(m, names[:r.Intn(5)])
			case 9:
				m = image.Fill(m, api.Want{Valid: uint32(r.Intn(5)), Uid: uint32(r.Intn(5))}, []byte("xy"))
			case 10:
				m = image.Evict(image.Use(m, api.Want{Valid: 1, Uid: 1}), r.Intn(20))
			}
			if !image.Right(m) {
				t.Fatalf("P21.1: what is answered is right: %+v, of %+v", m, before)
			}
		}
	}
}

func TestWrongImages(t *testing.T) {
	m := api.Image{Folders: []api.Folder{{Name: "a", List: []api.Held{{Size: -1, Has: true}, {}}}, {Name: "a"}}, Clock: -5}
	image.Right(m)
	image.Create(m, "b")
	image.Delete(m, "a")
	image.Rename(m, "a", "c")
	image.Add(m, "a", nil, "", nil)
	image.Store(m, "a", []uint32{0}, 1, nil)
	image.Expunge(m, "a", []uint32{0})
	image.Merge(m, "a", 0, []api.Seen{{}, {}})
	image.Only(m, []string{"", "a"})
	image.Fill(m, api.Want{}, nil)
	image.Use(m, api.Want{})
	image.Evict(m, -1)
	image.See(api.Folder{})
	image.Names(api.Image{})
}

func TestUpOne(t *testing.T) {
	m := image.Merge(image.Begin(), "INBOX", 1, []api.Seen{seen(1, 1)})
	m = image.Merge(m, "INBOX", 1, []api.Seen{seen(1, 1)})
	if l := m.Folders[0].List; len(l) != 1 || l[0].Uid != 1 {
		t.Errorf("P21.4: it stays: %+v", l)
	}
	m = image.Evict(image.Fill(m, api.Want{Valid: 1, Uid: 1}, []byte("x")), 0)
	if m.Folders[0].List[0].Has {
		t.Error("P21.5: what upstream has is clean")
	}
	for _, body := range []string{"\x00", "\x00a", "a\x00"} {
		if _, _, e := image.Add(m, "INBOX", nil, "", []byte(body)); e != api.ErrForm {
			t.Errorf("P21.3: a byte 00: %d", e)
		}
	}
	if _, _, e := image.Add(m, "INBOX", nil, "", make([]byte, api.MaxLiteral+1)); e != api.ErrForm {
		t.Errorf("P21.3: ErrForm is named ahead of ErrLong: %d", e)
	}
	if _, _, e := image.Add(m, "INBOX", nil, "", []byte(strings.Repeat("x", api.MaxLiteral))); e != api.OK {
		t.Errorf("P21.3: the longest: %d", e)
	}
}

func TestMergeKeepsTheOrder(t *testing.T) {
	m := create(t, image.Begin(), "x", "a")
	m, _ = image.Delete(m, "a")
	m, _ = image.Rename(m, "x", "a")
	m = image.Merge(right(t, m), "a", 5, nil)
	m = right(t, image.Merge(m, "a", 6, nil))
	if f := folder(t, m, "a"); f.Valid != 4 || f.Up != 6 || image.By(m, 3) != 1 || image.By(m, 4) != 2 {
		t.Errorf("P21.4: a new folder stands where its validity asks: %+v", m)
	}
	n := create(t, image.Begin(), "b", "a")
	n, _ = image.Rename(n, "b", "c")
	n, _ = image.Rename(n, "a", "d")
	if !slices.Equal(image.Names(right(t, n)), []string{"INBOX", "c", "d"}) {
		t.Errorf("P21.2: Rename keeps the order: %q", image.Names(n))
	}
}
