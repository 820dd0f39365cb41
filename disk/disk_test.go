package disk_test

import (
	"bytes"
	"testing"

	"cubby/api"
	"cubby/disk"
)

func full(c byte) []byte { return bytes.Repeat([]byte{c}, api.Sector) }

func made(t *testing.T, n int) *disk.Disk {
	t.Helper()
	d, e := disk.New(n)
	if e != api.OK || d == nil {
		t.Fatalf("P2.1: New(%d): %d", n, e)
	}
	return d
}

func shows(t *testing.T, d *disk.Disk, at int, want []byte) {
	t.Helper()
	if b, e := d.Read(at); e != api.OK || !bytes.Equal(b, want) {
		t.Errorf("sector %d: %x, %d; want %x", at, b, e, want)
	}
}

func torn(n int, c, old byte) []byte { return append(full(c)[:n:n], full(old)[n:]...) }

func TestNew(t *testing.T) {
	for _, n := range []int{-1, 0, api.MaxSectors + 1} {
		if d, e := disk.New(n); d != nil || e != api.ErrArg {
			t.Errorf("P2.1: New(%d): %d", n, e)
		}
	}
	for _, n := range []int{1, 2, api.MaxSectors} {
		d := made(t, n)
		if d.Size() != n || d.Waiting() != 0 || d.Down() {
			t.Errorf("P2.1: New(%d): %d", n, d.Size())
		}
		shows(t, d, n-1, full(0))
	}
}

func TestReadWriteFlush(t *testing.T) {
	d := made(t, 2)
	for _, at := range []int{-1, 2, 1 << 40} {
		if b, e := d.Read(at); e != api.ErrArg || b != nil {
			t.Errorf("P2.1: Read(%d): %d", at, e)
		}
		if e := d.Write(at, full(1)); e != api.ErrArg {
			t.Errorf("P2.1: Write(%d): %d", at, e)
		}
	}
	for _, n := range []int{0, api.Sector - 1, api.Sector + 1} {
		if e := d.Write(0, make([]byte, n)); e != api.ErrArg || d.Waiting() != 0 {
			t.Errorf("P2.1: a write of %d bytes: %d", n, e)
		}
	}
	in := full(1)
	if d.Write(0, in) != api.OK || d.Write(0, full(2)) != api.OK || d.Write(1, in) != api.OK || d.Waiting() != 3 {
		t.Fatal("P2.1: Write")
	}
	in[0] = 9
	shows(t, d, 0, full(2))
	shows(t, d, 1, full(1))
	out, _ := d.Read(1)
	out[0] = 9
	shows(t, d, 1, full(1))
	if d.Flush() != api.OK || d.Waiting() != 0 {
		t.Error("P2.1: Flush")
	}
	d.Crash([]int{64})
	d.Start()
	shows(t, d, 0, full(2))
	shows(t, d, 1, full(1))
}

func TestCrashKeepsFirstBytes(t *testing.T) {
	d := made(t, 8)
	for at := 0; at < 8; at++ {
		d.Write(at, full(1))
	}
	d.Flush()
	for at := 0; at < 8; at++ {
		d.Write(at, full(2))
	}
	if d.Crash([]int{3, 0, -5, 64, 63, 1000}) != api.OK || !d.Down() || d.Waiting() != 0 {
		t.Fatal("P2.3: Crash")
	}
	if d.Start() != api.OK || d.Down() {
		t.Fatal("P2.3: Start")
	}
	for at, n := range []int{3, 0, 0, 64, 63, 64, 0, 0} {
		shows(t, d, at, torn(n, 2, 1))
	}
}

func TestCrashKeepsInOrder(t *testing.T) {
	d := made(t, 1)
	d.Write(0, full(1))
	d.Write(0, full(2))
	d.Write(0, full(3))
	d.Crash([]int{40, 20, 4})
	d.Start()
	want := append(append(append(full(3)[:4:4], full(2)[4:20]...), full(1)[20:40]...), full(0)[40:]...)
	shows(t, d, 0, want)
}

func TestStart(t *testing.T) {
	d := made(t, 1)
	d.Write(0, full(1))
	d.Arm(1)
	if d.Start() != api.OK || d.Waiting() != 1 || d.Write(0, full(2)) != api.OK {
		t.Error("P2.3: of a disk that is up nothing changes, but nothing is armed")
	}
	d.Arm(1)
	if d.Flush() != api.ErrDown || d.Waiting() != 2 {
		t.Error("P2.2: a flush that is hit keeps nothing")
	}
	d.Start()
	if d.Waiting() != 0 {
		t.Error("P2.3: what still waits is lost")
	}
	shows(t, d, 0, full(0))
	d.Arm(1)
	d.Crash(nil)
	d.Start()
	if d.Write(0, full(1)) != api.OK {
		t.Error("P2.3: nothing is armed behind Start")
	}
}

func TestArm(t *testing.T) {
	d := made(t, 4)
	d.Arm(3)
	if d.Write(0, full(1)) != api.OK || d.Write(9, full(1)) != api.ErrArg || d.Flush() != api.OK {
		t.Fatal("P2.2: the first two")
	}
	if d.Write(1, full(1)) != api.ErrDown || !d.Down() || d.Waiting() != 1 {
		t.Error("P2.2: a write that is hit waits, and the disk is down")
	}
	if _, e := d.Read(0); e != api.ErrDown {
		t.Error("P2.1: a read of a disk that is down")
	}
	if _, e := d.Read(-1); e != api.ErrDown {
		t.Error("P2.1: down is named ahead of a wrong argument")
	}
	if d.Write(77, nil) != api.ErrDown || d.Flush() != api.ErrDown || d.Waiting() != 1 {
		t.Error("P2.1: a disk that is down")
	}
	d.Crash([]int{64})
	d.Start()
	shows(t, d, 1, full(1))
	for _, n := range []int{0, -1, -1 << 62} {
		d.Arm(1)
		d.Arm(n)
		for i := 0; i < 5; i++ {
			if d.Write(0, full(3)) != api.OK {
				t.Fatalf("P2.2: Arm(%d) takes the elder one's place", n)
			}
		}
	}
	d.Arm(2)
	d.Write(0, full(1))
	d.Arm(2)
	if d.Write(0, full(1)) != api.OK || d.Flush() != api.ErrDown {
		t.Error("P2.2: a later Arm counts from then on")
	}
}

func TestFork(t *testing.T) {
	d := made(t, 2)
	d.Write(0, full(1))
	d.Flush()
	d.Write(1, full(2))
	d.Arm(2)
	f := d.Fork()
	if f.Waiting() != 1 || f.Size() != 2 || f.Down() {
		t.Fatal("P2.3: a fork is alike")
	}
	if f.Write(0, full(3)) != api.OK || f.Write(0, full(4)) != api.ErrDown || d.Down() || d.Waiting() != 1 {
		t.Error("P2.3: a fork is armed alike, and is another one")
	}
	shows(t, d, 0, full(1))
	shows(t, d, 1, full(2))
	d.Flush()
	f.Crash(nil)
	f.Start()
	shows(t, f, 1, full(0))
	f.Crash(nil)
	if !f.Fork().Down() || d.Down() {
		t.Error("P2.3: a fork is as down as its disk")
	}
}

func TestForksWriteApart(t *testing.T) {
	for n := 1; n < 9; n++ {
		d := made(t, 2)
		for range n {
			d.Write(1, full(9))
		}
		f := d.Fork()
		f.Write(0, full(1))
		d.Write(0, full(2))
		shows(t, f, 0, full(1))
		shows(t, d, 0, full(2))
		f.Flush()
		shows(t, f, 0, full(1))
		d.Flush()
		shows(t, d, 0, full(2))
	}
}

func TestNil(t *testing.T) {
	var d *disk.Disk
	if _, e := d.Read(0); e != api.ErrNil {
		t.Error("P2.1: Read of nil")
	}
	if d.Write(0, full(0)) != api.ErrNil || d.Flush() != api.ErrNil || d.Arm(1) != api.ErrNil || d.Crash(nil) != api.ErrNil || d.Start() != api.ErrNil {
		t.Error("P2.3: of nil")
	}
	if d.Size() != 0 || d.Down() || d.Waiting() != 0 || d.Fork() != nil {
		t.Error("P2.3: of nil: zero values")
	}
}
