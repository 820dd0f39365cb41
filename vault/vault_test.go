package vault_test

import (
	"bytes"
	"math/rand"
	"reflect"
	"strconv"
	"strings"
	"testing"

	"cubby/api"
	"cubby/disk"
	"cubby/image"
	"cubby/queue"
	"cubby/table"
	"cubby/vault"
	"cubby/wal"
)

const noDate = " 1-Jan-1970 00:00:00 +0000"

func plain(v reflect.Value) {
	switch v.Kind() {
	case reflect.Struct:
		for i := range v.NumField() {
			plain(v.Field(i))
		}
	case reflect.Slice:
		if v.Len() == 0 {
			v.SetZero()
		}
		for i := range v.Len() {
			plain(v.Index(i))
		}
	}
}

func same[T any](a, b T) bool {
	plain(reflect.ValueOf(&a).Elem())
	plain(reflect.ValueOf(&b).Elem())
	return reflect.DeepEqual(a, b)
}

func newDisk(t *testing.T, n int) *disk.Disk {
	t.Helper()
	d, e := disk.New(n)
	if e != api.OK {
		t.Fatal(e)
	}
	return d
}

func open(t *testing.T, d *disk.Disk) *vault.Vault {
	t.Helper()
	v, e := vault.Open(d)
	if e != api.OK || v == nil {
		t.Fatalf("P23.2: Open: %d", e)
	}
	return v
}

func fall(d *disk.Disk, keep []int) {
	d.Crash(keep)
	d.Start()
}

// full is a state that has something of everything.
func full(t *testing.T) api.State {
	s := queue.Begin()
	for _, n := range []string{"a", "b", "\u00e9/x"} {
		s, _ = queue.Create(s, n)
		s = queue.Done(s, 0)
	}
	s, _, _ = queue.Append(s, "b", []string{"dead"}, "", []byte("dead"))
	s = queue.Kill(s, api.DeadRefused)
	s, _ = queue.Rename(s, "b", "c")
	s = queue.Kill(s, api.DeadGone)
	s, _, _ = queue.Append(s, "a", []string{"x", `\Seen`}, " 7-Jul-1996 02:44:25 -0730", []byte("one"))
	s, _, _ = queue.Append(s, "a", nil, "", bytes.Repeat([]byte("long "), 300))
	s, _ = queue.Rename(s, "\u00e9/x", "z")
	s, _, _ = queue.Store(s, "a", []uint32{1, 2}, api.AddFlags, []string{`\Deleted`, "y"})
	s, _, _ = queue.Expunge(s, "a", []uint32{1})
	s.Image = image.Merge(s.Image, "INBOX", 1<<32-1, []api.Seen{{Up: 7, Date: noDate, Size: 4, Flags: []string{"q"}}, {Up: 1<<32 - 1, Date: noDate, Size: 900}})
	s.Image = image.Fill(s.Image, api.Want{Valid: 1, Uid: 1}, []byte{0, 255, 0, 1})
	s.Image = image.Fill(s.Image, api.Want{Valid: 1, Uid: 2}, make([]byte, 900))
	s, _ = queue.Delete(s, "z")
	s.Token, s.Image.Clock = 1<<63, 1<<62
	if !queue.Right(s) {
		t.Fatal("the test's state")
	}
	return s
}

func TestPackAndTake(t *testing.T) {
	other, _, _ := queue.Append(queue.Begin(), "INBOX", nil, "", []byte("entry"))
	other.Queue[0].Body = []byte("other")
	away, _, _ := queue.Append(queue.Begin(), "INBOX", nil, "", []byte("entry"))
	away.Image = image.Merge(away.Image, "INBOX", 3, nil)
	known, _, _ := queue.Append(queue.Begin(), "INBOX", nil, "", bytes.Repeat([]byte("known"), 100))
	known, _, _ = queue.Append(known, "INBOX", nil, "", nil)
	for i, s := range []api.State{queue.Begin(), full(t), other, away, known} {
		b, e := vault.Pack(s)
		if e != api.OK {
			t.Fatalf("P23.1: Pack: %d", e)
		}
		got, e := vault.Take(b)
		if e != api.OK || !same(got, s) {
			t.Errorf("P23.1: state %d: Take: %d: %+v", i, e, got)
		}
		if _, e := vault.Take(append(b[:len(b):len(b)], 0)); e != api.ErrForm {
			t.Errorf("P23.1: bytes behind: %d", e)
		}
		for cut := range len(b) {
			if _, e := vault.Take(b[:cut]); e != api.ErrForm {
				t.Fatalf("P23.1: Take of %d bytes of %d: %d", cut, len(b), e)
			}
		}
	}
	wrong := queue.Begin()
	wrong.Token = 0
	if b, e := vault.Pack(wrong); e != api.ErrForm || b != nil {
		t.Errorf("P23.1: Pack of what is not right: %d", e)
	}
	if s, e := vault.Take(nil); e != api.ErrForm || s.Token != 0 {
		t.Errorf("P23.1: Take of nothing: %d", e)
	}
	r := rand.New(rand.NewSource(23))
	whole, _ := vault.Pack(full(t))
	for range 4000 {
		b := bytes.Clone(whole)
		for range 1 + r.Intn(3) {
			b[r.Intn(len(b))] = byte(r.Intn(256))
		}
		if s, e := vault.Take(b); e == api.OK {
			if back, e := vault.Pack(s); e != api.OK || !bytes.Equal(back, b) {
				t.Fatal("P23.1: Take takes what Pack does not make")
			}
		} else if s.Token != 0 || len(s.Queue) > 0 {
			t.Fatal("R4: Take")
		}
	}
}

func TestPut(t *testing.T) {
	d := newDisk(t, 1<<14)
	v := open(t, d)
	if !same(v.State(), queue.Begin()) {
		t.Errorf("P23.2: a new one: %+v", v.State())
	}
	wrong := queue.Begin()
	wrong.Image.Valid = 1
	if e := v.Put(wrong); e != api.ErrForm || !same(v.State(), queue.Begin()) {
		t.Errorf("P23.2: a state that is not right: %d", e)
	}
	s := full(t)
	in := full(t)
	if e := v.Put(in); e != api.OK {
		t.Fatalf("P23.2: Put: %d", e)
	}
	in.Image.Folders[0].Name = "q"
	in.Queue[0].Box = "q"
	if !same(v.State(), s) {
		t.Error("P23.2: Put")
	}
	out := v.State()
	out.Image.Folders[1].List[0].Flags[0] = "q"
	if !same(v.State(), s) {
		t.Error("R3: what is handed out is new")
	}
	if !same(open(t, d).State(), s) {
		t.Error("P23.2: opened anew")
	}
	fall(d, nil)
	v = open(t, d)
	if !same(v.State(), s) {
		t.Errorf("P23.3: behind a fall")
	}
	for len(s.Queue) > 0 {
		s = queue.Done(s, uint32(len(s.Queue)+1000))
		if e := v.Put(s); e != api.OK {
			t.Fatalf("P23.2: Put: %d", e)
		}
		fall(d, nil)
		v = open(t, d)
		if !same(v.State(), s) {
			t.Fatal("P23.3: behind a fall")
		}
	}
	if v.Put(queue.Begin()) != api.OK || !same(open(t, d).State(), queue.Begin()) {
		t.Error("P23.2: Put of a lesser one")
	}
}

func TestErrors(t *testing.T) {
	var none *vault.Vault
	if none.Put(queue.Begin()) != api.ErrNil || !same(none.State(), api.State{}) {
		t.Error("P23.3: of nil")
	}
	if v, e := vault.Open(nil); v != nil || e != api.ErrNil {
		t.Error("P23.2: Open of nil")
	}
	d := newDisk(t, 64)
	d.Crash(nil)
	if v, e := vault.Open(d); v != nil || e != api.ErrDown {
		t.Error("P23.2: Open of a disk that is down")
	}
	for _, key := range []string{"a", "zzz", "x1", "m"} {
		d := newDisk(t, 128)
		x, _ := table.Open(d)
		x.Do([]api.Change{{Key: []byte(key), Value: []byte("some value")}})
		if v, e := vault.Open(d); v != nil || e != api.ErrBad {
			t.Errorf("P23.2: a table with %q: %d", key, e)
		}
	}
	d = newDisk(t, 128)
	l, _ := wal.Open(d)
	l.Append([]byte("no table"))
	if v, e := vault.Open(d); v != nil || e != api.ErrBad {
		t.Errorf("P23.2: no table: %d", e)
	}
	v := open(t, newDisk(t, 3))
	if e := v.Put(queue.Begin()); e != api.ErrFull || !same(v.State(), queue.Begin()) {
		t.Errorf("P23.2: no room: %d", e)
	}
	d = newDisk(t, 1000)
	v = open(t, d)
	s := queue.Begin()
	for range 5 {
		s, _, _ = queue.Append(s, "INBOX", nil, "", bytes.Repeat([]byte("x"), api.MaxLiteral))
	}
	if e := v.Put(s); e != api.ErrFull || !same(v.State(), queue.Begin()) {
		t.Errorf("P23.2: no room: %d", e)
	}
	d.Crash(nil)
	wrong := s
	wrong.Token = 0
	if v.Put(wrong) != api.ErrForm || v.Put(s) != api.ErrDown || v.Put(queue.Begin()) != api.ErrDown {
		t.Error("P23.2: a disk that is down")
	}
	d.Start()
	if v.Put(queue.Begin()) != api.ErrDown {
		t.Error("P23.3: a vault that has answered ErrDown answers it from then on")
	}
}

// size is what promise P23.4 counts of a state.
func size(s api.State) int {
	n := 0
	flags := func(l []string) {
		for _, f := range l {
			n += 100 + len(f)
		}
	}
	entry := func(e api.Entry) {
		n += 100 + len(e.Box) + len(e.To) + 100*len(e.Uids) + len(e.Date) + len(e.Body)
		flags(e.Flags)
	}
	for _, f := range s.Image.Folders {
		n += 100 + len(f.Name)
		for _, h := range f.List {
			n += 100 + len(h.Date) + len(h.Body)
			flags(h.Flags)
		}
	}
	for _, e := range s.Queue {
		entry(e)
	}
	for _, d := range s.Dead {
		entry(d.Entry)
	}
	return n
}

// upTo is some state that is no greater than promise P23.4 lets it be.
func upTo(r *rand.Rand, most int) api.State {
	s := queue.Begin()
	names := []string{"INBOX", "a", "b", "c"}
	body := 1 + r.Intn(1+[]int{10, 100, 300, 3000}[r.Intn(4)])
	for range 900 {
		next := s
		name := names[r.Intn(4)]
		switch r.Intn(14) {
		case 0:
			next, _ = queue.Create(s, name)
		case 1:
			next, _ = queue.Rename(s, name, "n"+strconv.Itoa(r.Intn(9)))
		case 2:
			next, _, _ = queue.Store(s, name, []uint32{uint32(r.Intn(9)), uint32(r.Intn(200))}, api.AddFlags, []string{"x"})
		case 3:
			next = queue.Kill(s, 1+r.Intn(3))
		case 4, 5, 6:
			next = queue.Done(s, uint32(r.Intn(1000)))
		case 7:
			next.Image = image.Evict(s.Image, 0)
		default:
			next, _, _ = queue.Append(s, name, nil, "", bytes.Repeat([]byte{'a' + byte(r.Intn(26))}, body))
		}
		if size(next) <= most {
			s = next
		}
	}
	return s
}

func TestThereIsRoom(t *testing.T) {
	for _, n := range []int{90, 200, 400, 1000, 4000, 1 << 14, 1 << 16} {
		r := rand.New(rand.NewSource(int64(n)))
		d := newDisk(t, n)
		v := open(t, d)
		most := n * api.Sector / 50
		for i := range 6 {
			s := upTo(r, most)
			if e := v.Put(s); e != api.OK {
				t.Fatalf("P23.4: %d sectors, a state of %d bytes (of %d): %d", n, size(s), most, e)
			}
			if i%2 == 0 {
				fall(d, nil)
				v = open(t, d)
			}
			if !same(v.State(), s) {
				t.Fatal("P23.2: Put one behind the other: the last one is there")
			}
			for !same(s, queue.Begin()) && len(s.Queue) > 0 {
				s = queue.Done(s, 0)
				if e := v.Put(s); e != api.OK {
					t.Fatalf("P23.4: %d sectors: a lesser state: %d", n, e)
				}
				if len(s.Queue)%7 == 0 {
					break
				}
			}
		}
	}
}

func TestRoomBehindGreatStates(t *testing.T) {
	for _, n := range []int{1000, 1 << 14} {
		d := newDisk(t, n)
		v := open(t, d)
		r := rand.New(rand.NewSource(4))
		s := queue.Begin()
		full := 0
		for i := range 300 {
			next, _, e := queue.Append(s, "INBOX", []string{"x"}, "", []byte(strings.Repeat("y", r.Intn(n/4))))
			if e != api.OK {
				break
			}
			switch e := v.Put(next); e {
			case api.OK:
				s = next
			case api.ErrFull:
				full++
				if i%2 == 0 {
					lesser := queue.Kill(s, api.DeadGone)
					lesser.Dead = nil
					if v.Put(lesser) == api.OK {
						s = lesser
					}
				}
			default:
				t.Fatal(e)
			}
			if !same(v.State(), s) {
				t.Fatal("P23.2: what it has")
			}
		}
		if full == 0 {
			t.Error("the test's states were not great")
		}
		if small := upTo(r, n*api.Sector/50); v.Put(small) != api.OK || !same(open(t, d).State(), small) {
			t.Error("P23.4: room behind great states")
		}
	}
}

func TestFalls(t *testing.T) {
	for seed := int64(0); seed < 15; seed++ {
		r := rand.New(rand.NewSource(seed))
		n := []int{1000, 4000, 1 << 14}[r.Intn(3)]
		d := newDisk(t, n)
		v := open(t, d)
		last := queue.Begin()
		for range 10 {
			d.Arm(1 + r.Intn(1+[]int{10, 60, 400}[r.Intn(3)]))
			perhaps := last
			for range 4 {
				s := upTo(r, n*api.Sector/50)
				perhaps = s
				if v.Put(s) != api.OK {
					break
				}
				last = s
			}
			if !d.Down() {
				perhaps = last
			}
			keep := make([]int, d.Waiting())
			for i := range keep {
				keep[i] = []int{0, 64, r.Intn(65)}[r.Intn(3)]
			}
			fall(d, keep)
			v = open(t, d)
			if got := v.State(); !same(got, last) && !same(got, perhaps) {
				t.Fatalf("P23.3: seed %d: behind a fall: another state", seed)
			}
			if !same(open(t, d).State(), v.State()) {
				t.Fatal("W2: opened twice it is as opened once")
			}
			last = v.State()
		}
	}
}

// A state of more pieces than one Do of a table takes is put whole, or not at all.
func TestFallsWithinAGreatChange(t *testing.T) {
	s := queue.Begin()
	for i := range 200 {
		s.Image, _, _ = image.Add(s.Image, "INBOX", nil, "", []byte(strconv.Itoa(i)))
	}
	s, _ = queue.Create(s, "a")
	for i := range 200 {
		s.Image, _, _ = image.Add(s.Image, "a", nil, "", []byte(strconv.Itoa(i)))
	}
	changed, _, _ := queue.Append(s, "INBOX", nil, "", nil)
	changed = s
	for i := range changed.Image.Folders {
		changed.Image = image.Merge(changed.Image, []string{"INBOX", "a"}[i], 5, nil)
	}
	old := queue.Begin()
	for at := 1; ; at += 1 + at/8 {
		d := newDisk(t, 1<<16)
		v := open(t, d)
		if v.Put(old) != api.OK {
			t.Fatal("P23.2: Put")
		}
		d.Arm(at)
		e := v.Put(s)
		if e == api.OK {
			e = v.Put(changed)
			if e == api.OK {
				break
			}
			fall(d, nil)
			if got := open(t, d).State(); !same(got, s) && !same(got, changed) {
				t.Fatalf("P23.3: hit at %d", at)
			}
			continue
		}
		keep := make([]int, d.Waiting())
		for i := range keep {
			keep[i] = 64 * (i % 2)
		}
		fall(d, keep)
		v = open(t, d)
		if got := v.State(); !same(got, old) && !same(got, s) {
			t.Fatalf("P23.3: hit at %d", at)
		}
		if v.Put(s) != api.OK || !same(open(t, d).State(), s) {
			t.Fatalf("P23.2: put anew behind a fall at %d", at)
		}
	}
}
