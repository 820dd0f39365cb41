package code_test

import (
	"bytes"
	"testing"

	"cubby/api"
	"cubby/code"
)

func TestNumIsCountedAndShort(t *testing.T) {
	rows := []struct {
		v    uint64
		want []byte
	}{
		{0, []byte{0}},
		{1, []byte{1, 1}},
		{255, []byte{1, 255}},
		{256, []byte{2, 1, 0}},
		{300, []byte{2, 1, 0x2c}},
		{1 << 56, []byte{8, 1, 0, 0, 0, 0, 0, 0, 0}},
		{1<<64 - 1, []byte{8, 255, 255, 255, 255, 255, 255, 255, 255}},
	}
	for _, r := range rows {
		if got := code.Num(r.v); !bytes.Equal(got, r.want) {
			t.Errorf("P1.1: Num(%d): %x; want %x", r.v, got, r.want)
		}
	}
}

func TestTextIsStuffedAndEnded(t *testing.T) {
	rows := []struct{ b, want []byte }{
		{nil, []byte{0, 1}},
		{[]byte{0}, []byte{0, 0xff, 0, 1}},
		{[]byte{0x61, 0}, []byte{0x61, 0, 0xff, 0, 1}},
		{[]byte{0xff, 1}, []byte{0xff, 1, 0, 1}},
		{[]byte{0, 0, 5}, []byte{0, 0xff, 0, 0xff, 5, 0, 1}},
	}
	for _, r := range rows {
		if got := code.Text(r.b); !bytes.Equal(got, r.want) {
			t.Errorf("P1.1: Text(%x): %x; want %x", r.b, got, r.want)
		}
	}
}

func TestReaderReadsWhatWasWritten(t *testing.T) {
	nums := []uint64{0, 1, 127, 255, 256, 65535, 1 << 33, 1<<64 - 1}
	texts := [][]byte{nil, {0}, {1}, {0, 1, 0xff, 0}, []byte("abc")}
	var b []byte
	for i, n := range nums {
		b = append(b, code.Num(n)...)
		b = append(b, code.Text(texts[i%len(texts)])...)
	}
	r := code.New(b)
	for i, n := range nums {
		if got := r.Num(); got != n {
			t.Fatalf("P1.2: number %d: %d; want %d", i, got, n)
		}
		if got := r.Text(); !bytes.Equal(got, texts[i%len(texts)]) {
			t.Fatalf("P1.2: text %d: %x", i, got)
		}
	}
	if r.Err() != api.OK || r.End() != api.OK || r.Left() != 0 {
		t.Errorf("P1.3: at the end: %d %d %d", r.Err(), r.End(), r.Left())
	}
}

func TestReaderFaults(t *testing.T) {
	rows := []struct {
		b    []byte
		text bool
		want api.Errno
	}{
		{nil, false, api.ErrShort},
		{[]byte{1}, false, api.ErrShort},
		{[]byte{9}, false, api.ErrForm},
		{[]byte{255, 1}, false, api.ErrForm},
		{[]byte{1, 0}, false, api.ErrForm},
		{[]byte{3, 0}, false, api.ErrForm},
		{[]byte{3, 1, 0}, false, api.ErrShort},
		{nil, true, api.ErrShort},
		{[]byte{7}, true, api.ErrShort},
		{[]byte{7, 0}, true, api.ErrShort},
		{[]byte{7, 0, 0xff}, true, api.ErrShort},
		{[]byte{7, 0, 0}, true, api.ErrForm},
		{[]byte{7, 0, 2, 0, 1}, true, api.ErrForm},
		{[]byte{0, 0xfe}, true, api.ErrForm},
	}
	for i, x := range rows {
		r := code.New(append([]byte{1, 5}, x.b...))
		if r.Num() != 5 {
			t.Fatal("P1.2: the number ahead")
		}
		if x.text {
			if got := r.Text(); len(got) != 0 {
				t.Errorf("P1.3: row %d: %x", i, got)
			}
		} else if got := r.Num(); got != 0 {
			t.Errorf("P1.3: row %d: %d", i, got)
		}
		if r.Err() != x.want || r.End() != x.want || r.Left() != len(x.b) {
			t.Errorf("P1.2: row %d: %d %d, %d left; want %d", i, r.Err(), r.End(), r.Left(), x.want)
		}
	}
}

func TestReaderStaysAtItsFault(t *testing.T) {
	r := code.New([]byte{9, 1, 5, 0, 1})
	r.Num()
	if r.Num() != 0 || len(r.Text()) != 0 || r.Left() != 5 || r.Err() != api.ErrForm {
		t.Errorf("P1.3: behind a fault: %d left, %d", r.Left(), r.Err())
	}
	r = code.New([]byte{9})
	if len(r.Text()) != 0 || r.Err() != api.ErrShort || r.Num() != 0 || r.Err() != api.ErrShort {
		t.Error("P1.3: the first fault counts")
	}
}

func TestReaderEnd(t *testing.T) {
	r := code.New([]byte{0, 0})
	if r.Num() != 0 || r.End() != api.ErrForm || r.Err() != api.OK || r.Left() != 1 {
		t.Errorf("P1.3: bytes that are left: %d %d %d", r.End(), r.Err(), r.Left())
	}
	if r.Num() != 0 || r.End() != api.OK {
		t.Error("P1.3: End asks, and spoils nothing")
	}
	var none *code.Reader
	if none.Num() != 0 || len(none.Text()) != 0 || none.Left() != 0 || none.Err() != api.ErrNil || none.End() != api.ErrNil {
		t.Error("P1.3: of nil")
	}
	empty := code.New(nil)
	if empty.End() != api.OK || empty.Num() != 0 || empty.Err() != api.ErrShort {
		t.Error("P1.3: a reader of nothing")
	}
}

func TestReaderKeepsItsOwnBytes(t *testing.T) {
	b := []byte{1, 5, 0x61, 0, 1}
	r := code.New(b)
	b[1], b[2] = 9, 9
	if r.Num() != 5 {
		t.Error("P1.2: a reader stands in a copy")
	}
	got := r.Text()
	if string(got) != "a" {
		t.Errorf("P1.2: %x", got)
	}
	in := []byte{1, 2, 3}
	out := code.Text(in[:1])
	out[0] = 7
	if in[0] != 1 || in[1] != 2 {
		t.Error("R3: what is handed in is not changed")
	}
}

func TestOrderIsTheirs(t *testing.T) {
	texts := [][]byte{nil, {0}, {0, 0}, {0, 1}, {0, 255}, {1}, {1, 0}, {1, 255}, {2}, {255}, {255, 0}, {255, 255}}
	for i := 1; i < len(texts); i++ {
		if bytes.Compare(append(code.Text(texts[i-1]), 255, 255), code.Text(texts[i])) >= 0 {
			t.Errorf("the order of %x and %x", texts[i-1], texts[i])
		}
	}
	nums := []uint64{0, 1, 2, 255, 256, 65535, 65536, 1 << 40, 1<<64 - 1}
	for i := 1; i < len(nums); i++ {
		if bytes.Compare(append(code.Num(nums[i-1]), 255), code.Num(nums[i])) >= 0 {
			t.Errorf("the order of %d and %d", nums[i-1], nums[i])
		}
	}
}
