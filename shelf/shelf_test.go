package shelf_test

import (
	"math/rand"
	"slices"
	"testing"

	"cubby/api"
	"cubby/shelf"
)

func made(t *testing.T, budget int) *shelf.Shelf {
	t.Helper()
	s, e := shelf.New(budget)
	if e != api.OK || s == nil {
		t.Fatalf("P20.1: New(%d): %d", budget, e)
	}
	return s
}

func id(valid, uid uint32) api.ID { return api.ID{Valid: valid, Uid: uid} }

func TestNew(t *testing.T) {
	for _, n := range []int{-1, 1<<30 + 1} {
		if s, e := shelf.New(n); s != nil || e != api.ErrArg {
			t.Errorf("P20.1: New(%d): %d", n, e)
		}
	}
	for _, n := range []int{0, 1 << 30} {
		if s := made(t, n); s.Size() != 0 || s.Len() != 0 || len(s.Evict()) != 0 {
			t.Errorf("P20.1: New(%d)", n)
		}
	}
}

func TestPutAndDrop(t *testing.T) {
	s := made(t, 0)
	for _, n := range []int{-1, 1<<20 + 1} {
		if e := s.Put(id(1, 1), n, 0, true); e != api.ErrArg || s.Len() != 0 {
			t.Errorf("P20.1: a size of %d: %d", n, e)
		}
	}
	if s.Put(id(1, 1), 1<<20, -5, false) != api.OK || s.Put(id(1, 1), 3, 0, true) != api.ErrTwice || s.Put(id(1, 1), -1, 0, true) != api.ErrArg || s.Put(id(2, 1), 0, 0, false) != api.OK || s.Put(id(1, 2), 7, 0, true) != api.OK {
		t.Error("P20.1: Put")
	}
	if s.Size() != 1<<20+7 || s.Len() != 3 {
		t.Errorf("P20.1: Size %d, Len %d", s.Size(), s.Len())
	}
	if s.Drop(id(3, 3)) || !s.Drop(id(1, 1)) || s.Drop(id(1, 1)) || s.Size() != 7 || s.Len() != 2 {
		t.Error("P20.1: Drop")
	}
	if !s.Drop(id(1, 2)) || len(s.Evict()) != 0 || s.Touch(id(1, 2), 1) || s.Clean(id(1, 2)) {
		t.Error("P20.1: what is dropped is not there")
	}
}

func TestFull(t *testing.T) {
	s := made(t, 0)
	for i := range uint32(65536) {
		if e := s.Put(id(1, i), 1, int(i%7), true); e != api.OK {
			t.Fatalf("P20.1: Put %d: %d", i, e)
		}
	}
	if s.Put(id(2, 0), 0, 0, true) != api.ErrFull || s.Put(id(1, 0), 0, 0, true) != api.ErrTwice {
		t.Error("P20.1: as many as may be")
	}
	if len(s.Evict()) != 65536 || s.Size() != 0 || s.Len() != 0 {
		t.Error("P20.2: Evict of all")
	}
}

func TestEvict(t *testing.T) {
	a, b, c := id(1, 1), id(1, 2), id(1, 3)
	s := made(t, 10)
	s.Put(a, 6, 2, true)
	s.Put(b, 6, 1, false)
	s.Put(c, 1, 3, true)
	if got := s.Evict(); !slices.Equal(got, []api.ID{a}) || s.Size() != 7 || s.Len() != 2 {
		t.Errorf("P20.2: %v", got)
	}
	s.Put(a, 6, 4, true)
	if !s.Clean(b) || !s.Clean(b) || !s.Touch(b, 9) || s.Touch(id(7, 7), 1) || s.Clean(id(7, 7)) {
		t.Error("P20.1: Touch, Clean")
	}
	if got := s.Evict(); !slices.Equal(got, []api.ID{c, a}) || s.Size() != 6 {
		t.Errorf("P20.2: %v", got)
	}
	s = made(t, 0)
	for _, x := range []api.ID{id(2, 1), id(1, 9), id(1, 3), id(3, 0)} {
		s.Put(x, 1, 5, true)
	}
	s.Put(id(9, 9), 1, 4, true)
	s.Put(id(8, 8), 0, 6, true)
	if got := s.Evict(); !slices.Equal(got, []api.ID{id(9, 9), id(1, 3), id(1, 9), id(2, 1), id(3, 0)}) || s.Len() != 1 {
		t.Errorf("P20.2: of several the least Valid, then the least Uid: %v", got)
	}
	s = made(t, 5)
	s.Put(a, 9, 1, false)
	if len(s.Evict()) != 0 || s.Len() != 1 {
		t.Error("P20.2: what is not clean never goes")
	}
}

type thing struct {
	id         api.ID
	size, used int
	clean      bool
}

// first is the place of the one that goes first; -1, if none may.
func first(l []thing) int {
	best := -1
	for i, x := range l {
		if x.clean && (best < 0 || x.used < l[best].used || x.used == l[best].used && (x.id.Valid < l[best].id.Valid || x.id.Valid == l[best].id.Valid && x.id.Uid < l[best].id.Uid)) {
			best = i
		}
	}
	return best
}

func TestAgainstAList(t *testing.T) {
	for seed := int64(0); seed < 60; seed++ {
		r := rand.New(rand.NewSource(seed))
		budget := r.Intn(60)
		s := made(t, budget)
		var l []thing
		for range 300 {
			x := id(uint32(r.Intn(4)), uint32(r.Intn(6)))
			at := slices.IndexFunc(l, func(y thing) bool { return y.id == x })
			switch r.Intn(6) {
			case 0, 1:
				n := thing{x, r.Intn(12), r.Intn(10), r.Intn(2) == 0}
				if (s.Put(x, n.size, n.used, n.clean) == api.OK) != (at < 0) {
					t.Fatal("P20.1: Put")
				}
				if at < 0 {
					l = append(l, n)
				}
			case 2:
				u := r.Intn(10)
				if s.Touch(x, u) != (at >= 0) {
					t.Fatal("P20.1: Touch")
				}
				if at >= 0 {
					l[at].used = u
				}
			case 3:
				if s.Clean(x) != (at >= 0) {
					t.Fatal("P20.1: Clean")
				}
				if at >= 0 {
					l[at].clean = true
				}
			case 4:
				if s.Drop(x) != (at >= 0) {
					t.Fatal("P20.1: Drop")
				}
				if at >= 0 {
					l = slices.Delete(l, at, at+1)
				}
			case 5:
				var want []api.ID
				for size(l) > budget && first(l) >= 0 {
					i := first(l)
					want = append(want, l[i].id)
					l = slices.Delete(l, i, i+1)
				}
				if got := s.Evict(); !slices.Equal(got, want) {
					t.Fatalf("P20.2: %v; want %v", got, want)
				}
			}
			if s.Size() != size(l) || s.Len() != len(l) {
				t.Fatalf("P20.1: Size %d, Len %d", s.Size(), s.Len())
			}
		}
	}
}

func size(l []thing) int {
	n := 0
	for _, x := range l {
		n += x.size
	}
	return n
}

func TestNil(t *testing.T) {
	var s *shelf.Shelf
	if s.Put(id(1, 1), 0, 0, true) != api.ErrNil || s.Touch(id(1, 1), 0) || s.Clean(id(1, 1)) || s.Drop(id(1, 1)) || s.Evict() != nil || s.Size() != 0 || s.Len() != 0 {
		t.Error("P20.2: of nil")
	}
}
