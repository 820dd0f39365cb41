package view_test

import (
	"math/rand"
	"reflect"
	"slices"
	"strconv"
	"strings"
	"testing"

	"cubby/api"
	"cubby/view"
)

func plain(v reflect.Value) {
	switch v.Kind() {
	case reflect.Struct:
		for i := range v.NumField() {
			plain(v.Field(i))
		}
	case reflect.Slice:
		if v.Len() == 0 {
			v.SetZero()
		}
		for i := range v.Len() {
			plain(v.Index(i))
		}
	}
}

func same[T any](a, b T) bool {
	plain(reflect.ValueOf(&a).Elem())
	plain(reflect.ValueOf(&b).Elem())
	return reflect.DeepEqual(a, b)
}

// folder has messages like 3, 4- (which is gone), 5:a,b (with flags).
func folder(text string) api.Folder {
	f := api.Folder{Name: "a", Valid: 7, Next: 99}
	for _, w := range strings.Fields(text) {
		w, gone := strings.CutSuffix(w, "-")
		n, l, _ := strings.Cut(w, ":")
		uid, _ := strconv.Atoi(n)
		h := api.Held{Uid: uint32(uid), Gone: gone}
		if l != "" {
			h.Flags = strings.Split(l, ",")
		}
		f.List = append(f.List, h)
	}
	return f
}

// spell tells replies in short.
func spell(l []api.Reply) string {
	var out []string
	for _, r := range l {
		s := strconv.Itoa(int(r.N))
		switch r.Kind {
		case api.ReplyGone:
			s += " gone"
		case api.ReplyExist:
			s += " exist"
		case api.ReplyFetch:
			for _, p := range r.Pairs {
				s += " " + p.Name + "=" + p.Value
			}
		default:
			s += " ?"
		}
		if r.Tag != "*" {
			s += " tag"
		}
		out = append(out, s)
	}
	return strings.Join(out, "; ")
}

func TestOpen(t *testing.T) {
	s := view.Open(folder("3:a 4- 5 9:b,c"), true)
	want := api.Sight{Box: "a", Valid: 7, Read: true, Uids: []uint32{3, 5, 9}, Flags: [][]string{{"a"}, nil, {"b", "c"}}}
	if !same(s, want) || !view.Right(s) {
		t.Errorf("P24.1: Open: %+v", s)
	}
	if s := view.Open(folder(""), false); s.Read || len(s.Uids) != 0 || !view.Right(s) {
		t.Errorf("P24.1: Open of an empty one: %+v", s)
	}
	f := folder("3:a")
	s = view.Open(f, false)
	s.Flags[0][0] = "q"
	if f.List[0].Flags[0] != "a" {
		t.Error("R3: what is handed out is new")
	}
}

func TestNumberAndUids(t *testing.T) {
	s := view.Open(folder("3 5 9"), false)
	for uid, want := range map[uint32]int{3: 1, 5: 2, 9: 3, 0: 0, 4: 0, 10: 0} {
		if got := view.Number(s, uid); got != want {
			t.Errorf("P24.1: Number(%d): %d", uid, got)
		}
	}
	r := func(from, to uint32) []api.Range { return []api.Range{{From: from, To: to}} }
	rows := []struct {
		set  []api.Range
		uid  bool
		want []uint32
	}{
		{r(1, 2), false, []uint32{3, 5}}, {r(1, 3), true, []uint32{3}}, {r(2, 0), false, []uint32{5, 9}}, {r(0, 0), false, []uint32{9}}, {r(0, 0), true, []uint32{9}}, {r(7, 0), false, []uint32{9}}, {r(10, 0), true, []uint32{9}}, {r(4, 4), false, nil}, {r(4, 4), true, nil}, {append(r(3, 3), r(1, 1)...), false, []uint32{3, 9}}, {nil, true, nil},
	}
	for _, x := range rows {
		if got := view.Uids(s, x.set, x.uid); !slices.Equal(got, x.want) {
			t.Errorf("P24.1: Uids(%v, %v): %v; want %v", x.set, x.uid, got, x.want)
		}
	}
	if got := view.Uids(api.Sight{}, r(1, 0), false); len(got) != 0 {
		t.Errorf("P24.1: Uids of an empty one: %v", got)
	}
}

func TestTurn(t *testing.T) {
	rows := []struct {
		was, is string
		gone    bool
		want    string
		uids    []uint32
	}{
		{"3 5 9", "3 9 10", true, "2 gone; 3 exist", []uint32{3, 9, 10}},
		{"3 5 9", "3 9 10", false, "4 exist", []uint32{3, 5, 9, 10}},
		{"3 5 9", "3 5 9", true, "", []uint32{3, 5, 9}},
		{"3 5 9", "5-", true, "3 gone; 2 gone; 1 gone", nil},
		{"3 5 9", "10 11", true, "3 gone; 2 gone; 1 gone; 2 exist", []uint32{10, 11}},
		{"", "1:a 2", true, "2 exist", []uint32{1, 2}},
		{"3:a 5 9:b", "3:b 5 9:b,c 12:q", true, "4 exist; 1 UID=3 FLAGS=(b); 3 UID=9 FLAGS=(b c)", []uint32{3, 5, 9, 12}},
		{"3:a 5 9:b", "5:x 9", true, "1 gone; 1 UID=5 FLAGS=(x); 2 UID=9 FLAGS=()", []uint32{5, 9}},
		{"3:a 5 9:b", "5:x 9", false, "2 UID=5 FLAGS=(x); 3 UID=9 FLAGS=()", []uint32{3, 5, 9}},
		{"3 9", "3 5 9", true, "", []uint32{3, 9}},
		{"3 9", "3 5 10", true, "2 gone; 2 exist", []uint32{3, 10}},
		{"3 9", "3- 9- 10-", false, "", []uint32{3, 9}},
	}
	for i, r := range rows {
		s := view.Open(folder(r.was), false)
		kept := view.Open(folder(r.was), false)
		got, replies := view.Turn(s, folder(r.is), r.gone)
		if spell(replies) != r.want || !slices.Equal(got.Uids, r.uids) || !view.Right(got) || got.Box != "a" || got.Valid != 7 {
			t.Errorf("P24.2: row %d: %s, %v; want %s", i, spell(replies), got.Uids, r.want)
		}
		if !same(s, kept) {
			t.Errorf("R3: row %d: what is handed in is changed", i)
		}
		if again, replies := view.Turn(got, folder(r.is), r.gone); len(replies) > 0 || !same(again, got) {
			t.Errorf("what is told once is not told again: row %d: %s", i, spell(replies))
		}
	}
}

func TestRight(t *testing.T) {
	for i, s := range []api.Sight{{Uids: []uint32{0}, Flags: [][]string{nil}}, {Uids: []uint32{2, 2}, Flags: [][]string{nil, nil}}, {Uids: []uint32{2, 1}, Flags: [][]string{nil, nil}}, {Uids: []uint32{1}}, {Flags: [][]string{nil}}} {
		if view.Right(s) {
			t.Errorf("P24.1: row %d is not right", i)
		}
		view.Turn(s, folder("1 2"), true)
		view.Turn(s, folder("2 1"), false)
	}
	if !view.Right(api.Sight{}) {
		t.Error("P24.1: an empty one is right")
	}
}

// A client that does what replies tell has just what there is.
func TestWhoListensKnows(t *testing.T) {
	r := rand.New(rand.NewSource(24))
	for range 500 {
		next := uint32(1)
		var f api.Folder
		f.Valid = 1
		s := view.Open(f, false)
		known := 0
		for range 12 {
			for range r.Intn(3) {
				f.List = append(f.List, api.Held{Uid: next})
				next++
			}
			for i := range f.List {
				if r.Intn(6) == 0 {
					f.List[i].Gone = true
				}
				if r.Intn(4) == 0 {
					f.List[i].Flags = []string{"x" + strconv.Itoa(r.Intn(2))}
				}
			}
			gone := r.Intn(2) == 0
			var replies []api.Reply
			s, replies = view.Turn(s, f, gone)
			for _, x := range replies {
				switch x.Kind {
				case api.ReplyGone:
					if !gone || int(x.N) > known {
						t.Fatal("numbers shift only where ReplyGone tells it")
					}
					known--
				case api.ReplyExist:
					if int(x.N) <= known {
						t.Fatal("P24.2: ReplyExist")
					}
					known = int(x.N)
				}
			}
			if known != len(s.Uids) || gone && !same(s.Uids, view.Open(f, false).Uids) {
				t.Fatalf("P24.2: %d known; %v", known, s.Uids)
			}
			for i, uid := range s.Uids {
				for _, h := range f.List {
					if h.Uid == uid && !h.Gone && !slices.Equal(h.Flags, s.Flags[i]) {
						t.Fatal("P24.2: flags are told")
					}
				}
			}
		}
	}
}
