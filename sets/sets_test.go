package sets_test

import (
	"math/rand"
	"slices"
	"strings"
	"testing"

	"cubby/api"
	"cubby/sets"
)

func TestParseAndPrint(t *testing.T) {
	rows := []struct {
		s    string
		want []api.Range
	}{
		{"1", []api.Range{{From: 1, To: 1}}},
		{"*", []api.Range{{}}},
		{"4:2,*", []api.Range{{From: 4, To: 2}, {}}},
		{"1:*", []api.Range{{From: 1}}},
		{"*:9", []api.Range{{To: 9}}},
		{"4294967295,4294967295:1", []api.Range{{From: 4294967295, To: 4294967295}, {From: 4294967295, To: 1}}},
		{"3,3,2:5", []api.Range{{From: 3, To: 3}, {From: 3, To: 3}, {From: 2, To: 5}}},
	}
	for _, r := range rows {
		if got, e := sets.Parse(r.s); e != api.OK || !slices.Equal(got, r.want) {
			t.Errorf("P7.1: Parse(%q): %v, %d", r.s, got, e)
		}
		if got, e := sets.Print(r.want); e != api.OK || got != r.s {
			t.Errorf("P7.1: Print(%v): %q, %d", r.want, got, e)
		}
	}
	if got, e := sets.Parse("5:5,*:*"); e != api.OK || !slices.Equal(got, []api.Range{{From: 5, To: 5}, {}}) {
		t.Errorf("P7.1: Parse: %v, %d", got, e)
	}
}

func TestWrong(t *testing.T) {
	for _, s := range []string{"", ",", "1,", ",1", "0", "01", "1:", ":1", ":", "1:2:3", "4294967296", "99999999999999999999", "a", "1 ", " 1", "-1", "+1", "**", "*1", "1*", "1::2", "1,,2", "\u0661", "1;2", "0x1", "1:0"} {
		if got, e := sets.Parse(s); e != api.ErrForm || got != nil {
			t.Errorf("P7.1: Parse(%q): %v, %d", s, got, e)
		}
	}
	most := strings.Repeat("1,", api.MaxRanges-1) + "1"
	if got, e := sets.Parse(most); e != api.OK || len(got) != api.MaxRanges {
		t.Errorf("P7.1: as many ranges as may be: %d", e)
	}
	if got, e := sets.Parse(most + ",1"); e != api.ErrLong || got != nil {
		t.Errorf("P7.1: one range more: %d", e)
	}
	if _, e := sets.Parse(most + ",1,x"); e != api.ErrForm {
		t.Errorf("P7.1: long, and no set: %d", e)
	}
	if s, e := sets.Print(nil); e != api.ErrForm || s != "" {
		t.Errorf("P7.1: Print of nothing: %d", e)
	}
	if s, e := sets.Print(make([]api.Range, api.MaxRanges+1)); e != api.ErrLong || s != "" {
		t.Errorf("P7.1: Print of too many: %d", e)
	}
	if _, e := sets.Print(make([]api.Range, api.MaxRanges)); e != api.OK {
		t.Errorf("P7.1: Print: %d", e)
	}
}

func TestHas(t *testing.T) {
	set := []api.Range{{From: 4, To: 2}, {}}
	rows := []struct {
		l      []api.Range
		n, top uint32
		want   bool
	}{
		{set, 3, 9, true}, {set, 2, 9, true}, {set, 4, 9, true}, {set, 1, 9, false}, {set, 5, 9, false}, {set, 9, 9, true}, {set, 0, 9, false}, {set, 0, 0, false},
		{nil, 1, 9, false},
		{[]api.Range{{From: 5}}, 4, 9, false}, {[]api.Range{{From: 5}}, 7, 9, true}, {[]api.Range{{From: 5}}, 10, 9, false},
		{[]api.Range{{From: 12}}, 10, 9, true}, {[]api.Range{{From: 12}}, 8, 9, false}, {[]api.Range{{From: 12}}, 12, 9, true},
		{[]api.Range{{To: 3}}, 2, 0, true}, {[]api.Range{{To: 3}}, 4, 0, false},
		{[]api.Range{{From: 4294967295, To: 4294967295}}, 4294967295, 1, true},
	}
	for _, r := range rows {
		if got := sets.Has(r.l, r.n, r.top); got != r.want {
			t.Errorf("P7.2: Has(%v, %d, %d): %v", r.l, r.n, r.top, got)
		}
	}
}

func TestPick(t *testing.T) {
	have := []uint32{2, 3, 5, 9}
	rows := []struct {
		s    string
		want []uint32
	}{
		{"1:*", have}, {"*", []uint32{9}}, {"100:*", []uint32{9}}, {"4:8", []uint32{5}}, {"5,3", []uint32{3, 5}}, {"1,4", nil}, {"3,3:3,1:3", []uint32{2, 3}},
	}
	for _, r := range rows {
		l, _ := sets.Parse(r.s)
		if got := sets.Pick(l, have); !slices.Equal(got, r.want) {
			t.Errorf("P7.2: Pick(%q): %v; want %v", r.s, got, r.want)
		}
	}
	if got := sets.Pick([]api.Range{{From: 1}}, nil); len(got) != 0 {
		t.Errorf("P7.2: Pick of nothing: %v", got)
	}
	got := sets.Pick([]api.Range{{From: 1}}, have)
	got[0] = 77
	if have[0] != 2 {
		t.Error("R3: what is picked is new")
	}
}

func TestOf(t *testing.T) {
	rows := []struct {
		have []uint32
		want string
	}{
		{[]uint32{1}, "1"}, {[]uint32{1, 2, 3, 7}, "1:3,7"}, {[]uint32{2, 4, 6}, "2,4,6"}, {[]uint32{5, 6}, "5:6"}, {[]uint32{1, 4294967294, 4294967295}, "1,4294967294:4294967295"},
	}
	for _, r := range rows {
		if s, _ := sets.Print(sets.Of(r.have)); s != r.want {
			t.Errorf("P7.2: Of(%v): %s; want %s", r.have, s, r.want)
		}
	}
	if got := sets.Of(nil); len(got) != 0 {
		t.Errorf("P7.2: Of nothing: %v", got)
	}
	r := rand.New(rand.NewSource(7))
	for range 500 {
		var have []uint32
		for n := uint32(1); n < 40; n++ {
			if r.Intn(2) == 0 {
				have = append(have, n)
			}
		}
		if got := sets.Pick(sets.Of(have), have); !slices.Equal(got, have) {
			t.Fatalf("P7.2: Of is picked as what it is of: %v: %v", have, got)
		}
		for n := uint32(1); n < 45; n++ {
			if sets.Has(sets.Of(have), n, 44) != slices.Contains(have, n) {
				t.Fatalf("P7.2: Of(%v) and %d", have, n)
			}
		}
	}
}
