package table_test

import (
	"bytes"
	"maps"
	"math/rand"
	"slices"
	"strings"
	"testing"

	"cubby/api"
	"cubby/disk"
	"cubby/table"
	"cubby/wal"
)

func newDisk(t *testing.T, n int) *disk.Disk {
	t.Helper()
	d, e := disk.New(n)
	if e != api.OK {
		t.Fatal(e)
	}
	return d
}

func open(t *testing.T, d *disk.Disk) *table.Table {
	t.Helper()
	x, e := table.Open(d)
	if e != api.OK || x == nil {
		t.Fatalf("P4.1: Open: %d", e)
	}
	return x
}

func set(key, value string) api.Change { return api.Change{Key: []byte(key), Value: []byte(value)} }
func drop(key string) api.Change       { return api.Change{Key: []byte(key), Drop: true} }

func all(x *table.Table, from, to string) string {
	var out []string
	for k, v := range x.Scan([]byte(from), []byte(to)) {
		out = append(out, string(k)+"="+string(v))
	}
	return strings.Join(out, " ")
}

func fall(d *disk.Disk, keep []int) {
	d.Crash(keep)
	d.Start()
}

func TestDo(t *testing.T) {
	d := newDisk(t, 512)
	x := open(t, d)
	if x.Len() != 0 || all(x, "", "") != "" {
		t.Error("P4.1: an empty table")
	}
	rows := []struct {
		l    []api.Change
		want string
	}{
		{[]api.Change{set("b", "2"), set("a", "1")}, "a=1 b=2"},
		{nil, "a=1 b=2"},
		{[]api.Change{drop("a"), drop("zzz")}, "b=2"},
		{[]api.Change{set("b", ""), set("c", "1"), set("c", "2"), drop("b"), set("b", "3")}, "b=3 c=2"},
		{[]api.Change{set("d", "4"), drop("d")}, "b=3 c=2"},
		{[]api.Change{set("\x00", "\x00\x00"), set("\xff\xff", "")}, "\x00=\x00\x00 b=3 c=2 \xff\xff="},
	}
	for i, r := range rows {
		if e := x.Do(r.l); e != api.OK {
			t.Fatalf("P4.1: Do %d: %d", i, e)
		}
		if got := all(x, "", ""); got != r.want {
			t.Errorf("P4.1: Do %d: %q; want %q", i, got, r.want)
		}
		fall(d, nil)
		x = open(t, d)
		if got := all(x, "", ""); got != r.want {
			t.Errorf("P4.1: Do %d is not safe: %q; want %q", i, got, r.want)
		}
	}
	if x.Len() != 4 {
		t.Errorf("P4.2: Len: %d", x.Len())
	}
}

func TestDoErrors(t *testing.T) {
	d := newDisk(t, 1<<14)
	x := open(t, d)
	x.Do([]api.Change{set("a", "1")})
	long := strings.Repeat("k", api.MaxKey)
	many := make([]api.Change, 401)
	for i := range many {
		many[i] = set("k", "")
	}
	most := api.MaxRecord - 4096
	rows := []struct {
		l    []api.Change
		want api.Errno
	}{
		{[]api.Change{set("b", "2"), set("", "1")}, api.ErrArg},
		{[]api.Change{drop("")}, api.ErrArg},
		{[]api.Change{set(long+"k", "1")}, api.ErrArg},
		{append(many, set("", "")), api.ErrArg},
		{many, api.ErrLong},
		{[]api.Change{set("b", strings.Repeat("v", most))}, api.ErrLong},
		{[]api.Change{set("b", strings.Repeat("v", most-1)), set("c", "")}, api.ErrLong},
	}
	for i, r := range rows {
		if e := x.Do(r.l); e != r.want {
			t.Errorf("P4.1: row %d: %d; want %d", i, e, r.want)
		}
		if all(x, "", "") != "a=1" {
			t.Errorf("P4.1: row %d has changed something", i)
		}
	}
	fits := []api.Change{set(long, strings.Repeat("\x00", most-api.MaxKey))}
	if e := x.Do(fits); e != api.OK {
		t.Errorf("P4.1: the longest Do: %d", e)
	}
	if e := x.Do(many[:400]); e != api.OK {
		t.Errorf("P4.1: 400 changes: %d", e)
	}
	fall(d, nil)
	x = open(t, d)
	if v, ok := x.Get([]byte(long)); !ok || string(v) != string(fits[0].Value) {
		t.Error("P4.1: the longest Do is safe")
	}
	small := open(t, newDisk(t, 32))
	if e := small.Do([]api.Change{set("a", strings.Repeat("v", 4000))}); e != api.ErrFull || small.Len() != 0 {
		t.Errorf("P4.1: no room: %d", e)
	}
}

func TestOpenErrors(t *testing.T) {
	if x, e := table.Open(nil); x != nil || e != api.ErrNil {
		t.Error("P4.1: Open of nil")
	}
	d := newDisk(t, 64)
	d.Crash(nil)
	if x, e := table.Open(d); x != nil || e != api.ErrDown {
		t.Error("P4.1: Open of a disk that is down")
	}
	for _, r := range []string{"x", "some words", strings.Repeat("\xff", 100)} {
		d := newDisk(t, 64)
		l, _ := wal.Open(d)
		l.Append([]byte(r))
		if x, e := table.Open(d); x != nil || e != api.ErrBad {
			t.Errorf("P4.1: a log with %q: %d", r, e)
		}
	}
}

func TestGetAndScan(t *testing.T) {
	x := open(t, newDisk(t, 512))
	x.Do([]api.Change{set("a", "1"), set("ab", "2"), set("b", "3"), set("c", "")})
	rows := []struct{ from, to, want string }{
		{"", "", "a=1 ab=2 b=3 c="},
		{"a", "", "a=1 ab=2 b=3 c="},
		{"aa", "b", "ab=2"},
		{"ab", "c", "ab=2 b=3"},
		{"b", "a", ""},
		{"b", "b", ""},
		{"d", "", ""},
		{"", "ab", "a=1"},
	}
	for _, r := range rows {
		if got := all(x, r.from, r.to); got != r.want {
			t.Errorf("P4.2: Scan(%q, %q): %q; want %q", r.from, r.to, got, r.want)
		}
	}
	if v, ok := x.Get([]byte("ab")); !ok || string(v) != "2" {
		t.Error("P4.2: Get")
	}
	if v, ok := x.Get([]byte("c")); !ok || len(v) != 0 {
		t.Error("P4.2: Get of an empty value")
	}
	for _, k := range []string{"", "aa", "d"} {
		if v, ok := x.Get([]byte(k)); ok || v != nil {
			t.Errorf("P4.2: Get(%q)", k)
		}
	}
}

func TestScanIsAsItWasAskedFor(t *testing.T) {
	x := open(t, newDisk(t, 512))
	key, value := []byte("a"), []byte("1")
	x.Do([]api.Change{{Key: key, Value: value}, set("b", "2"), set("c", "3")})
	key[0], value[0] = 'z', 'z'
	seen := x.Scan(nil, nil)
	x.Do([]api.Change{drop("a"), set("b", "9"), set("d", "4")})
	for round := 0; round < 2; round++ {
		var got []string
		for k, v := range seen {
			got = append(got, string(k)+string(v))
			k[0], v[0] = 'x', 'x'
			if len(got) == 2 {
				break
			}
		}
		if !slices.Equal(got, []string{"a1", "b2"}) {
			t.Errorf("R6: round %d: %v", round, got)
		}
	}
	if v, _ := x.Get([]byte("b")); string(v) != "9" {
		t.Error("R3: what is handed out is new")
	}
	v, _ := x.Get([]byte("c"))
	v[0] = 'x'
	if all(x, "", "") != "b=9 c=3 d=4" {
		t.Errorf("R3: %q", all(x, "", ""))
	}
}

func TestNil(t *testing.T) {
	for _, x := range []*table.Table{nil} {
		if x.Do(nil) != api.ErrNil || x.Compact() != api.ErrNil || x.Len() != 0 || x.Room() {
			t.Error("P4.2: of nil")
		}
		if _, ok := x.Get([]byte("a")); ok {
			t.Error("P4.2: Get of nil")
		}
		for range x.Scan(nil, nil) {
			t.Error("P4.2: Scan of nil")
		}
	}
}

func TestCompact(t *testing.T) {
	d := newDisk(t, 2048)
	x := open(t, d)
	for i := range 200 {
		if e := x.Do([]api.Change{set("a", strings.Repeat("v", 40)), set(string(rune('b'+i%3)), "1")}); e != api.OK {
			t.Fatal(e)
		}
	}
	want := all(x, "", "")
	if e := x.Compact(); e != api.OK {
		t.Fatalf("P4.2: Compact: %d", e)
	}
	fall(d, nil)
	l, _ := wal.Open(d)
	if n := len(l.Records()); n != 1 {
		t.Errorf("P4.2: %d records behind Compact", n)
	}
	x = open(t, d)
	if all(x, "", "") != want {
		t.Error("P4.2: Compact has changed the table")
	}
	x.Do([]api.Change{drop("a"), drop("b"), drop("c"), drop("d")})
	if e := x.Compact(); e != api.OK || x.Len() != 0 {
		t.Errorf("P4.2: Compact of nothing: %d", e)
	}
	l, _ = wal.Open(d)
	if n := len(l.Records()); n != 0 {
		t.Errorf("P4.2: %d records of nothing", n)
	}
}

func TestRoom(t *testing.T) {
	x := open(t, newDisk(t, 1<<16))
	if open(t, newDisk(t, 64)).Room() {
		t.Error("P4.2: no such room on 64 sectors")
	}
	value := strings.Repeat("v", api.MaxRecord-4096-1)
	done := 0
	for x.Room() {
		if e := x.Do([]api.Change{set("a", value)}); e != api.OK {
			t.Fatalf("P4.2: Room says so, and Do answers %d", e)
		}
		done++
	}
	if done == 0 {
		t.Error("P4.2: an empty table on 2^16 sectors has room")
	}
	for x.Do([]api.Change{set("a", value)}) == api.OK {
	}
	if x.Room() {
		t.Error("P4.2: Room behind ErrFull")
	}
}

func TestCompactOfAGreatTable(t *testing.T) {
	d := newDisk(t, 1<<16)
	x := open(t, d)
	value := func(i, round int) string { return strings.Repeat(string(rune('a'+i+round)), 20000) }
	want := ""
	for round := range 8 {
		for i := range 6 {
			if e := x.Do([]api.Change{set(string(rune('a'+i)), value(i, round))}); e != api.OK {
				t.Fatalf("P4.4: Do: %d", e)
			}
		}
		want = all(x, "", "")
		if e := x.Compact(); e != api.OK || all(x, "", "") != want {
			t.Fatalf("P4.4: Compact of a great table: %d", e)
		}
	}
	l, _ := wal.Open(d)
	if n := len(l.Records()); n > 3 {
		t.Errorf("P4.2: %d records, of which 2 or 3 are enough", n)
	}
	fall(d, nil)
	x = open(t, d)
	if all(x, "", "") != want {
		t.Error("P4.2: Compact of a great table is safe")
	}
	if !x.Room() {
		t.Error("P4.2: there is room behind Compact")
	}
	for i := 0; open(t, d).Room() && i < 100; i++ {
		x = open(t, d)
		if e := x.Do([]api.Change{set("z", strings.Repeat("z", 61000))}); e != api.OK {
			t.Fatalf("P4.2: opened anew Room says so, and Do answers %d", e)
		}
	}
}

func TestCompactWithoutRoom(t *testing.T) {
	d := newDisk(t, 8192)
	x := open(t, d)
	for i := 0; x.Do([]api.Change{set("k"+string(rune('a'+i%3)), strings.Repeat(string(rune('a'+i)), 50000))}) == api.OK; i++ {
	}
	want := all(x, "", "")
	if e := x.Compact(); e != api.OK && e != api.ErrFull || all(x, "", "") != want {
		t.Errorf("P4.2: Compact without room: %d", e)
	}
	if all(open(t, d), "", "") != want {
		t.Error("P4.1: with any error but ErrDown nothing has changed")
	}
}

// What promise P4.4 says that finds room.
func TestThereIsRoom(t *testing.T) {
	for seed := int64(0); seed < 60; seed++ {
		r := rand.New(rand.NewSource(seed))
		n := []int{20, 33, 64, 100, 400, 3000}[r.Intn(6)]
		x := open(t, newDisk(t, n))
		have := map[string]string{}
		weight := 0
		for range 200 {
			var l []api.Change
			sum := 0
			for range 1 + r.Intn(3) {
				c := set(string(rune('a'+r.Intn(8))), strings.Repeat("\x00", r.Intn(1+r.Intn(200))))
				c.Drop = r.Intn(5) == 0
				l = append(l, c)
				sum += len(c.Key) + len(c.Value) + 64
			}
			if 2*(weight+sum) > n*api.Sector/8 {
				if 2*weight > n*api.Sector/8 {
					t.Fatal("the test's weight")
				}
				if e := x.Compact(); e != api.OK {
					t.Fatalf("P4.4: %d sectors, weight %d: Compact: %d", n, weight, e)
				}
				weight = 0
				for k, v := range have {
					weight += len(k) + len(v) + 64
				}
				continue
			}
			if e := x.Do(l); e != api.OK {
				t.Fatalf("P4.4: %d sectors, weight %d and %d: %d", n, weight, sum, e)
			}
			weight += sum
			for _, c := range l {
				if c.Drop {
					delete(have, string(c.Key))
				} else {
					have[string(c.Key)] = string(c.Value)
				}
			}
		}
		same(t, x, have)
	}
}

func same(t *testing.T, x *table.Table, want map[string]string) {
	t.Helper()
	if x.Len() != len(want) {
		t.Fatalf("P4.2: Len %d; want %d", x.Len(), len(want))
	}
	keys := slices.Sorted(maps.Keys(want))
	i := 0
	for k, v := range x.Scan(nil, nil) {
		if string(k) != keys[i] || string(v) != want[keys[i]] {
			t.Fatalf("P4.2: %q: %q", k, v)
		}
		i++
	}
}

func with(m map[string]string, l []api.Change) map[string]string {
	out := maps.Clone(m)
	for _, c := range l {
		if c.Drop {
			delete(out, string(c.Key))
		} else {
			out[string(c.Key)] = string(c.Value)
		}
	}
	return out
}

func alike(x *table.Table, m map[string]string) bool {
	n := 0
	for k, v := range x.Scan(nil, nil) {
		if w, ok := m[string(k)]; !ok || w != string(v) {
			return false
		}
		n++
	}
	return n == len(m)
}

func someChanges(r *rand.Rand) []api.Change {
	var l []api.Change
	for range 1 + r.Intn(4) {
		c := set(string(rune('a'+r.Intn(6))), string(bytes.Repeat([]byte{byte(r.Intn(256))}, r.Intn(120))))
		c.Drop = r.Intn(4) == 0
		l = append(l, c)
	}
	return l
}

func TestFalls(t *testing.T) {
	for seed := int64(0); seed < 200; seed++ {
		r := rand.New(rand.NewSource(seed))
		d := newDisk(t, 60+r.Intn(100))
		x := open(t, d)
		have := map[string]string{}
		for range 20 {
			d.Arm(1 + r.Intn(25))
			perhaps := have
			for range 30 {
				if r.Intn(5) == 0 {
					if x.Compact() == api.ErrDown {
						break
					}
					continue
				}
				l := someChanges(r)
				e := x.Do(l)
				if e == api.OK {
					have = with(have, l)
				} else if e == api.ErrDown {
					perhaps = with(have, l)
					break
				} else if e == api.ErrFull {
					x.Compact()
				}
				perhaps = have
				same(t, x, have)
			}
			if d.Down() && (x.Do(nil) != api.ErrDown || x.Compact() != api.ErrDown) {
				t.Fatal("P4.3: a table that is down")
			}
			keep := make([]int, d.Waiting())
			for i := range keep {
				keep[i] = []int{0, 64, r.Intn(65)}[r.Intn(3)]
			}
			down := d.Down()
			fall(d, keep)
			if down && x.Do([]api.Change{set("q", "1")}) != api.ErrDown {
				t.Fatal("P4.3: a table that has answered ErrDown answers it from then on")
			}
			x = open(t, d)
			if !alike(x, have) && !alike(x, perhaps) {
				t.Fatalf("P4.3: seed %d: %q", seed, all(x, "", ""))
			}
			if !alike(x, have) {
				have = perhaps
			}
		}
	}
}
