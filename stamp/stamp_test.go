package stamp_test

import (
	"math"
	"math/rand"
	"testing"
	"time"

	"cubby/api"
	"cubby/stamp"
)

func TestParseAndPrint(t *testing.T) {
	rows := []struct {
		s    string
		want api.Stamp
	}{
		{" 7-Jul-1996 02:44:25 -0730", api.Stamp{Year: 1996, Month: 7, Day: 7, Hour: 2, Minute: 44, Second: 25, Zone: -450}},
		{"31-Dec-2999 23:59:59 +1559", api.Stamp{Year: 2999, Month: 12, Day: 31, Hour: 23, Minute: 59, Second: 59, Zone: 959}},
		{" 1-Jan-1900 00:00:00 -1559", api.Stamp{Year: 1900, Month: 1, Day: 1, Zone: -959}},
		{"29-Feb-2000 10:20:30 +0000", api.Stamp{Year: 2000, Month: 2, Day: 29, Hour: 10, Minute: 20, Second: 30}},
		{"10-Oct-2004 00:00:00 +0001", api.Stamp{Year: 2004, Month: 10, Day: 10, Zone: 1}},
	}
	for _, r := range rows {
		if got, e := stamp.Parse(r.s); e != api.OK || got != r.want {
			t.Errorf("P8.1: Parse(%q): %v, %d", r.s, got, e)
		}
		if got, e := stamp.Print(r.want); e != api.OK || got != r.s {
			t.Errorf("P8.1: Print(%v): %q, %d", r.want, got, e)
		}
		if !stamp.Right(r.want) {
			t.Errorf("Right(%v)", r.want)
		}
	}
	for i, m := range []string{"Jan", "Feb", "Mar", "Apr", "May", "Jun", "Jul", "Aug", "Sep", "Oct", "Nov", "Dec"} {
		if got, e := stamp.Parse("07-" + m + "-1996 02:44:25 -0730"); e != api.OK || got.Month != i+1 || got.Day != 7 {
			t.Errorf("P8.1: a day with a 0 ahead: %v, %d", got, e)
		}
	}
}

func TestWrong(t *testing.T) {
	for _, s := range []string{
		"", "7-Jul-1996 02:44:25 -0730", "  7-Jul-1996 02:44:25 -0730", " 7-Jul-1996 02:44:25 -0730 ", " 7-jul-1996 02:44:25 -0730", " 7-JUL-1996 02:44:25 -0730", " 7-Jux-1996 02:44:25 -0730",
		" 0-Jul-1996 02:44:25 -0730", "00-Jul-1996 02:44:25 -0730", "32-Jul-1996 02:44:25 -0730", "31-Jun-1996 02:44:25 -0730", "29-Feb-1900 02:44:25 -0730", "29-Feb-2001 02:44:25 -0730", "30-Feb-2000 02:44:25 -0730",
		" 7-Jul-1899 02:44:25 -0730", " 7-Jul-3000 02:44:25 -0730", " 7-Jul-1996 24:44:25 -0730", " 7-Jul-1996 02:60:25 -0730", " 7-Jul-1996 02:44:60 -0730",
		" 7-Jul-1996 02:44:25 -0000", " 7-Jul-1996 02:44:25 +0060", " 7-Jul-1996 02:44:25 +1600", " 7-Jul-1996 02:44:25 -1600", " 7-Jul-1996 02:44:25 +9959", " 7-Jul-1996 02:44:25 00730", " 7-Jul-1996 02:44:25  0730",
		" 7 Jul-1996 02:44:25 -0730", " 7-Jul 1996 02:44:25 -0730", " 7-Jul-1996-02:44:25 -0730", " 7-Jul-1996 02.44:25 -0730", " 7-Jul-1996 02:44.25 -0730", " 7-Jul-1996 02:44:25--0730",
		" a-Jul-1996 02:44:25 -0730", "-7-Jul-1996 02:44:25 -0730", "7 -Jul-1996 02:44:25 -0730", " 7-Jul-+996 02:44:25 -0730", " 7-Jul-1996  2:44:25 -0730", " 7-Jul-1996 02:44:25 -073", " 7-Jul-1996 02:44:25 -07300", " 7-Jul-1996 02:44:25 -7 30",
		" :-Jul-1996 02:44:25 -0730", "1/-Jul-1996 02:44:25 -0730", " 7-Jul-1996 0::44:25 -0730", " 7-Jul-1996 02:44:25 -0/30", "::-Jul-1996 02:44:25 -0730",
	} {
		if got, e := stamp.Parse(s); e != api.ErrForm || got != (api.Stamp{}) {
			t.Errorf("P8.1: Parse(%q): %v, %d", s, got, e)
		}
	}
	ok := api.Stamp{Year: 2000, Month: 2, Day: 29}
	if !stamp.Right(ok) {
		t.Error("P8.1: Right")
	}
	wrong := []api.Stamp{{}, ok, ok, ok, ok, ok, ok, ok, ok, ok, ok, ok, ok, ok, ok, ok}
	wrong[1].Year = 1899
	wrong[2].Year = 3000
	wrong[3].Month = 0
	wrong[4].Month = 13
	wrong[5].Day = 0
	wrong[6].Day = 30
	wrong[7].Hour = -1
	wrong[8].Hour = 24
	wrong[9].Minute = -1
	wrong[10].Minute = 60
	wrong[11].Second = -1
	wrong[12].Second = 60
	wrong[13].Zone = 960
	wrong[14].Zone = -960
	wrong[15].Month = math.MinInt
	for _, w := range wrong {
		if stamp.Right(w) {
			t.Errorf("P8.1: Right(%v): it is not", w)
		}
		if s, e := stamp.Print(w); e != api.ErrForm || s != "" {
			t.Errorf("P8.1: Print(%v): %q, %d", w, s, e)
		}
		if stamp.Seconds(w) != 0 {
			t.Errorf("P8.2: Seconds(%v)", w)
		}
	}
}

func TestSecondsAndAt(t *testing.T) {
	first, _ := stamp.Parse(" 1-Jan-1970 01:00:00 +0100")
	if stamp.Seconds(first) != 0 {
		t.Errorf("P8.2: %d", stamp.Seconds(first))
	}
	r := rand.New(rand.NewSource(8))
	for range 3000 {
		zone := r.Intn(959*2+1) - 959
		g := time.Date(1900+r.Intn(1100), time.Month(1+r.Intn(12)), 1+r.Intn(28), r.Intn(24), r.Intn(60), r.Intn(60), 0, time.FixedZone("", zone*60))
		want := api.Stamp{Year: g.Year(), Month: int(g.Month()), Day: g.Day(), Hour: g.Hour(), Minute: g.Minute(), Second: g.Second(), Zone: zone}
		if got := stamp.Seconds(want); got != g.Unix() {
			t.Fatalf("P8.2: Seconds(%v): %d; want %d", want, got, g.Unix())
		}
		if got, ok := stamp.At(g.Unix(), zone); !ok || got != want {
			t.Fatalf("P8.2: At: %v, %v; want %v", got, ok, want)
		}
		s, _ := stamp.Print(want)
		if got, e := stamp.Parse(s); e != api.OK || got != want {
			t.Fatalf("P8.1: what is printed is parsed: %q", s)
		}
	}
}

func TestAtTheEnds(t *testing.T) {
	for _, zone := range []int{0, 959, -959, 60} {
		last := api.Stamp{Year: 2999, Month: 12, Day: 31, Hour: 23, Minute: 59, Second: 59, Zone: zone}
		if got, ok := stamp.At(stamp.Seconds(last), zone); !ok || got != last {
			t.Errorf("P8.2: the last second: %v", got)
		}
		if got, ok := stamp.At(stamp.Seconds(last)+1, zone); ok || got != (api.Stamp{}) {
			t.Errorf("P8.2: behind the last second: %v", got)
		}
		first := api.Stamp{Year: 1900, Month: 1, Day: 1, Zone: zone}
		if got, ok := stamp.At(stamp.Seconds(first), zone); !ok || got != first {
			t.Errorf("P8.2: the first second: %v", got)
		}
		if _, ok := stamp.At(stamp.Seconds(first)-1, zone); ok {
			t.Error("P8.2: ahead of the first second")
		}
	}
	for _, s := range []int64{math.MaxInt64, math.MinInt64} {
		for _, z := range []int{0, 959, -959} {
			if _, ok := stamp.At(s, z); ok {
				t.Errorf("R7: At(%d, %d)", s, z)
			}
		}
	}
	for _, z := range []int{960, -960, math.MaxInt, math.MinInt} {
		if got, ok := stamp.At(0, z); ok || got != (api.Stamp{}) {
			t.Errorf("P8.2: At(0, %d)", z)
		}
	}
}
