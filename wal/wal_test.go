package wal_test

import (
	"bytes"
	"math/rand"
	"testing"

	"cubby/api"
	"cubby/disk"
	"cubby/wal"
)

func newDisk(t *testing.T, n int) *disk.Disk {
	t.Helper()
	d, e := disk.New(n)
	if e != api.OK {
		t.Fatal(e)
	}
	return d
}

func open(t *testing.T, d *disk.Disk) *wal.Log {
	t.Helper()
	l, e := wal.Open(d)
	if e != api.OK || l == nil {
		t.Fatalf("P3.1: Open: %d", e)
	}
	return l
}

func has(t *testing.T, l *wal.Log, first uint64, want ...string) {
	t.Helper()
	r := l.Records()
	if l.First() != first || l.Next() != first+uint64(len(want)) || len(r) != len(want) {
		t.Fatalf("P3.3: First %d, Next %d, %d records; want %d and %d", l.First(), l.Next(), len(r), first, len(want))
	}
	for i, w := range want {
		if string(r[i]) != w {
			t.Errorf("P3.3: record %d: %d bytes; want %d", i, len(r[i]), len(w))
		}
	}
}

func fall(d *disk.Disk, keep []int) {
	d.Crash(keep)
	d.Start()
}

func TestOpen(t *testing.T) {
	if l, e := wal.Open(nil); l != nil || e != api.ErrNil {
		t.Error("P3.1: Open of nil")
	}
	for _, n := range []int{1, 2, 3, 8, 100} {
		has(t, open(t, newDisk(t, n)), 0)
	}
	d := newDisk(t, 64)
	d.Crash(nil)
	if l, e := wal.Open(d); l != nil || e != api.ErrDown {
		t.Error("P3.1: Open of a disk that is down")
	}
}

func TestAppendSyncCut(t *testing.T) {
	d := newDisk(t, 256)
	l := open(t, d)
	in := []byte("a record")
	if l.Append(in) != api.OK || l.Append(nil) != api.OK || l.Append(bytes.Repeat([]byte{0}, 130)) != api.OK {
		t.Fatal("P3.2: Append")
	}
	in[0] = 'z'
	zeros := string(make([]byte, 130))
	has(t, l, 0, "a record", "", zeros)
	l.Records()[0][0] = 'x'
	has(t, l, 0, "a record", "", zeros)
	has(t, open(t, d), 0, "a record", "", zeros)
	if l.Cut(4) != api.ErrArg || l.Cut(1<<63) != api.ErrArg {
		t.Error("P3.2: Cut above Next")
	}
	if l.Cut(1) != api.OK || l.Cut(0) != api.ErrArg || d.Waiting() != 0 {
		t.Error("P3.2: Cut below First")
	}
	has(t, l, 1, "", zeros)
	fall(d, nil)
	has(t, open(t, d), 1, "", zeros)
	l = open(t, d)
	if l.Append([]byte("b")) != api.OK || l.Cut(4) != api.OK {
		t.Error("P3.2: Cut of all")
	}
	fall(d, nil)
	l = open(t, d)
	has(t, l, 4)
	if l.Append([]byte("c")) != api.OK || l.Sync() != api.OK {
		t.Error("P3.2: Append behind a Cut of all")
	}
	fall(d, nil)
	has(t, open(t, d), 4, "c")
}

func TestWhatIsNotSafeMayBeLost(t *testing.T) {
	d := newDisk(t, 64)
	l := open(t, d)
	l.Append([]byte("a"))
	if l.Sync() != api.OK || d.Waiting() != 0 {
		t.Fatal("P3.2: Sync")
	}
	l.Append([]byte("b"))
	fall(d, nil)
	l = open(t, d)
	if n := l.Next(); n < 1 || n > 2 || string(l.Records()[0]) != "a" {
		t.Errorf("P3.4: what is safe is there: Next %d", n)
	}
	l.Append([]byte("c"))
	n := l.Next()
	if l.Cut(0) != api.OK {
		t.Error("P3.2: Cut of nothing")
	}
	fall(d, nil)
	l = open(t, d)
	if l.Next() != n || string(l.Records()[n-1]) != "c" {
		t.Errorf("P3.2: behind a Cut all is safe: Next %d; was %d", l.Next(), n)
	}
}

func TestErrors(t *testing.T) {
	var none *wal.Log
	if none.Append(nil) != api.ErrNil || none.Sync() != api.ErrNil || none.Cut(0) != api.ErrNil || none.First() != 0 || none.Next() != 0 || none.Records() != nil {
		t.Error("P3.3: of nil")
	}
	d := newDisk(t, 8192)
	l := open(t, d)
	if l.Append(make([]byte, api.MaxRecord+1)) != api.ErrLong {
		t.Error("P3.2: a record that is too long")
	}
	if l.Append(make([]byte, api.MaxRecord)) != api.OK {
		t.Error("P3.2: the longest record")
	}
	has(t, l, 0, string(make([]byte, api.MaxRecord)))
	has(t, open(t, d), 0, string(make([]byte, api.MaxRecord)))
	small := open(t, newDisk(t, 16))
	if small.Append(make([]byte, 16*64)) != api.ErrFull {
		t.Error("P3.2: no room")
	}
	has(t, small, 0)
	if open(t, newDisk(t, 1)).Append(make([]byte, 100)) != api.ErrFull {
		t.Error("P3.2: no room at all")
	}
}

func TestDownStaysDown(t *testing.T) {
	for at := 1; at < 8; at++ {
		d := newDisk(t, 64)
		l := open(t, d)
		l.Append([]byte("a"))
		l.Sync()
		d.Arm(at)
		hit := l.Append(make([]byte, 100)) == api.ErrDown || l.Sync() == api.ErrDown || l.Cut(1) == api.ErrDown
		if !hit {
			continue
		}
		if l.Append(nil) != api.ErrDown || l.Sync() != api.ErrDown || l.Cut(l.First()) != api.ErrDown {
			t.Errorf("P3.3: hit at %d", at)
		}
		fall(d, nil)
		if l.Append(nil) != api.ErrDown || l.Sync() != api.ErrDown || l.Cut(l.First()) != api.ErrDown {
			t.Errorf("P3.3: hit at %d, and the disk is up again", at)
		}
	}
	d := newDisk(t, 64)
	l := open(t, d)
	d.Crash(nil)
	if l.Append(nil) != api.ErrDown || l.Sync() != api.ErrDown {
		t.Error("P3.2: the disk is down")
	}
}

func cost(n int) int { return (n+39)/40 + 2 }

func TestRoom(t *testing.T) {
	for _, n := range []int{40, 41, 64, 200, 1000} {
		for _, size := range []int{0, 1, 40, 41, 200, 333} {
			d := newDisk(t, n)
			l := open(t, d)
			for round := 0; round < 3; round++ {
				for used := cost(size); used <= n/2-8; used += cost(size) {
					if e := l.Append(bytes.Repeat([]byte{byte(round)}, size)); e != api.OK {
						t.Fatalf("P3.5: %d sectors, records of %d: %d", n, size, e)
					}
				}
				if l.Cut(l.Next()) != api.OK {
					t.Fatal("P3.2: Cut")
				}
			}
		}
	}
}

// model is what may be behind a fall.
type model struct {
	records     map[uint64][]byte
	first, next uint64 // as the log tells
	safe        uint64 // all below is safe
	cut         uint64 // of a Cut that was answered with ErrDown
	cutting     bool
	perhaps     bool // an Append was answered with ErrDown
}

func (m *model) check(t *testing.T, l *wal.Log) {
	t.Helper()
	top := m.next
	if m.perhaps {
		top++
	}
	first, next := l.First(), l.Next()
	if first != m.first && !(m.cutting && first == m.cut && next == m.next) {
		t.Fatalf("P3.4: First %d; was %d", first, m.first)
	}
	if next < m.safe || next > top || next < first {
		t.Fatalf("P3.4: Next %d; safe %d, was %d", next, m.safe, top)
	}
	for i, r := range l.Records() {
		if !bytes.Equal(r, m.records[first+uint64(i)]) {
			t.Fatalf("P3.4: the record %d is another one", first+uint64(i))
		}
	}
	m.first, m.next, m.safe, m.cutting, m.perhaps = first, next, next, false, false
}

// step does something with the log, and tells whether it is down.
func (m *model) step(t *testing.T, r *rand.Rand, l *wal.Log) bool {
	switch r.Intn(6) {
	case 0:
		switch l.Sync() {
		case api.OK:
			m.safe = m.next
		case api.ErrDown:
			return true
		}
	case 1:
		n := m.first + uint64(r.Intn(int(m.next-m.first)+1))
		switch l.Cut(n) {
		case api.OK:
			m.first, m.safe = n, m.next
		case api.ErrDown:
			m.cut, m.cutting = n, true
			return true
		default:
			t.Fatal("P3.2: Cut")
		}
	default:
		b := make([]byte, []int{0, 5, 39, 40, 41, 90, 170}[r.Intn(7)])
		r.Read(b)
		switch l.Append(b) {
		case api.OK:
			m.records[m.next] = b
			m.next++
		case api.ErrDown:
			m.records[m.next] = b
			m.perhaps = true
			return true
		}
	}
	if l.First() != m.first || l.Next() != m.next {
		t.Fatalf("P3.3: First %d, Next %d; want %d, %d", l.First(), l.Next(), m.first, m.next)
	}
	return false
}

func keeps(r *rand.Rand, n int) []int {
	keep := make([]int, n)
	for i := range keep {
		keep[i] = []int{0, 64, r.Intn(65), 62 + r.Intn(3), r.Intn(3)}[r.Intn(5)]
	}
	return keep
}

func TestFalls(t *testing.T) {
	for seed := int64(0); seed < 300; seed++ {
		r := rand.New(rand.NewSource(seed))
		d := newDisk(t, 12+r.Intn(40))
		m := &model{records: map[uint64][]byte{}}
		l := open(t, d)
		for fallen := 0; fallen < 30; fallen++ {
			d.Arm(1 + r.Intn(20))
			for steps := 0; steps < 40; steps++ {
				if m.step(t, r, l) {
					break
				}
				if r.Intn(8) == 0 {
					l = open(t, d)
					if l.First() != m.first || l.Next() != m.next {
						t.Fatal("P3.2: a log that is opened anew without a fall has all")
					}
				}
			}
			d.Crash(keeps(r, d.Waiting()))
			d.Start()
			l = open(t, d)
			m.check(t, l)
			twice := open(t, d)
			if twice.First() != l.First() || twice.Next() != l.Next() {
				t.Fatal("P3.5: opened twice it is as opened once")
			}
		}
	}
}
