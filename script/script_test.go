package script_test

import (
	"bytes"
	"math/rand"
	"reflect"
	"strings"
	"testing"

	"cubby/api"
	"cubby/code"
	"cubby/command"
	"cubby/disk"
	"cubby/house"
	"cubby/proxy"
	"cubby/remote"
	"cubby/script"
)

func plain(v reflect.Value) {
	switch v.Kind() {
	case reflect.Struct:
		for i := range v.NumField() {
			plain(v.Field(i))
		}
	case reflect.Slice:
		if v.Len() == 0 {
			v.SetZero()
		}
		for i := range v.Len() {
			plain(v.Index(i))
		}
	}
}

func same[T any](a, b T) bool {
	plain(reflect.ValueOf(&a).Elem())
	plain(reflect.ValueOf(&b).Elem())
	return reflect.DeepEqual(a, b)
}

// spell is a script of parts: bytes as numbers, texts as texts of chapter 1.
func spell(parts ...any) []byte {
	var out []byte
	for _, p := range parts {
		switch x := p.(type) {
		case int:
			out = append(out, byte(x))
		case string:
			out = append(out, code.Text([]byte(x))...)
		}
	}
	return out
}

func TestDecode(t *testing.T) {
	c, _ := command.Parse([]byte("e UID STORE 1:* +FLAGS (x)"))
	rows := []struct {
		b    []byte
		want []api.Move
	}{
		{nil, nil}, {spell(0, 1, 1), nil}, {spell(12), nil}, {spell(255), nil},
		{spell(1, 11), []api.Move{{Kind: api.MoveOpen, Who: 3}}},
		{spell(1), nil},
		{spell(2, 9, "a\x00\r\n", 3, 7), []api.Move{{Kind: api.MoveBytes, Who: 1, Bytes: []byte("a\x00\r\n")}, {Kind: api.MoveClose, Who: 7}}},
		{spell(4, 11, 5, 3, 5, 8), []api.Move{{Kind: api.MoveSync}, {Kind: api.MoveCut}, {Kind: api.MoveLink, N: 1}, {Kind: api.MoveLink}}},
		{spell(7, "a", 8, 200, 9, 0), []api.Move{{Kind: api.MoveReset, Box: "a"}, {Kind: api.MoveNo, N: 200}, {Kind: api.MoveArm}}},
		{spell(10, 8, 10, 11, 1, 2, 255, 4), []api.Move{{Kind: api.MoveFall}, {Kind: api.MoveFall, Keep: []int{1, 2, 255}}, {Kind: api.MoveSync}}},
		{spell(6, "b", "e UID STORE 1:* +FLAGS (x)", 6, "c", "e FOO", 4), []api.Move{{Kind: api.MoveEdit, Box: "b", Command: c}, {Kind: api.MoveEdit, Box: "c"}, {Kind: api.MoveSync}}},
		{append(spell(4, 2, 0, 65), 0, 7, 4), []api.Move{{Kind: api.MoveSync}}},
		{spell(4, 10, 7, 1, 2, 3), []api.Move{{Kind: api.MoveSync}}},
		{spell(4, 6, "a"), []api.Move{{Kind: api.MoveSync}}},
		{spell(4, 7, 97), []api.Move{{Kind: api.MoveSync}}},
		{spell(4, 5), []api.Move{{Kind: api.MoveSync}}},
		{spell(4, 13, 4), []api.Move{{Kind: api.MoveSync}}},
	}
	for i, r := range rows {
		if got := script.Decode(r.b); !same(got, r.want) {
			t.Errorf("P30.1: row %d: %+v; want %+v", i, got, r.want)
		}
	}
	if got := script.Decode(bytes.Repeat([]byte{4}, 300)); len(got) != 200 {
		t.Errorf("P30.1: up to 200 moves: %d", len(got))
	}
}

func TestRun(t *testing.T) {
	rows := []struct {
		b    []byte
		want string
	}{
		{nil, "0 0 0\n"},
		{spell(1, 0, 2, 0, "a LOGIN u p\r\n"), "* OK ready|a OK done|0 0 0\n"},
		{spell(2, 0, "a NOOP\r\n", 3, 0), "0 0 0\n"},
		{spell(1, 1, 1, 0, 2, 1, "a NOOP\r\n"), "* OK ready|* OK ready|a OK done|0 0 0\n"},
		{spell(1, 1, 3, 1, 1, 1, 2, 1, "a LOGIN a b\r\nb CREATE q\r\n"), "* OK ready|* OK ready|a OK done|b OK done|1 0 0\n"},
		{spell(1, 2, 1, 1, 3, 2, 2, 1, "a NOOP\r\n"), "* OK ready|* OK ready|a OK done|0 0 0\n"},
		{spell(1, 0, 10, 0, 2, 0, "a NOOP\r\n"), "* OK ready|0 0 0\n"},
		{spell(1, 0, 2, 0, "a LOGIN u p\r\nb APPEND INBOX {1}\r\nx\r\n", 5, 1, 4, 4, 4, 4), "* OK ready|a OK done|+ ready|b OK [APPENDUID 1 1] done|0 0 4\n"},
		{spell(1, 0, 2, 0, "a LOGIN u p\r\nb CREATE q\r\n", 5, 1, 4, 4, 8, 1, 4, 4), "* OK ready|a OK done|b OK done|0 1 4\n"},
		{spell(1, 0, 2, 0, "a LOGIN u p\r\nb CREATE q\r\n", 5, 1, 4, 4, 6, "", "e CREATE q", 4), "* OK ready|a OK done|b OK done|0 1 3\n"},
	}
	for i, r := range rows {
		want := strings.ReplaceAll(r.want, "|", "\r\n")
		if got := script.Run(r.b); string(got) != want {
			t.Errorf("P30.2: row %d: %q; want %q", i, got, want)
		}
	}
}

// some is a script of moves that are likely to do something.
func some(r *rand.Rand) []byte {
	lines := []string{"a LOGIN u p", "a SELECT INBOX", "a SELECT q", "a CREATE q", "a DELETE q", "a RENAME q w", "a APPEND INBOX {3}\r\nabc", "a APPEND q (\\Deleted) {3}\r\nabc", "a STORE 1:* +FLAGS (\\Deleted k)", "a EXPUNGE", "a FETCH 1:* (FLAGS BODY[])", "a COPY 1:* q", "a SEARCH ALL", "a LIST \"\" *", "a LOGOUT", "a FOO", "a NOOP"}
	edits := []string{"e CREATE q", "e DELETE q", "e APPEND INBOX {1}\r\nz", "e APPEND q {1}\r\nz", "e UID STORE 1:* +FLAGS (\\Deleted)", "e UID EXPUNGE 1:*", "junk"}
	boxes := []string{"INBOX", "q", "w"}
	var out []byte
	for range 150 {
		switch r.Intn(14) {
		case 0:
			out = append(out, spell(1, r.Intn(3))...)
		case 1, 2, 3, 4, 5:
			out = append(out, spell(2, r.Intn(3), lines[r.Intn(len(lines))]+"\r\n")...)
		case 6:
			out = append(out, spell(3, r.Intn(3)+5*r.Intn(2))...)
		case 7, 8, 9:
			out = append(out, spell(5, 1, 4, 4, 4)...)
		case 10:
			out = append(out, spell(6, boxes[r.Intn(3)], edits[r.Intn(len(edits))])...)
		case 11:
			out = append(out, [][]byte{spell(5, 0), spell(7, boxes[r.Intn(3)]), spell(8, r.Intn(3)), spell(11)}[r.Intn(4)]...)
		case 12:
			out = append(out, spell(9, r.Intn(12))...)
		case 13:
			out = append(out, spell(10, 3, r.Intn(70), r.Intn(70), 64)...)
		}
	}
	return out
}

// byHand is what a script is answered, told move by move.
func byHand(b []byte) []byte {
	d, _ := disk.New(1 << 14)
	p, _ := proxy.New(d, remote.New(house.New()), 4096)
	var out []byte
	all := func() {
		for who := range api.MaxSessions {
			out = append(out, p.Out(who)...)
		}
	}
	for _, m := range script.Decode(b) {
		if m.Kind == api.MoveClose || m.Kind == api.MoveFall {
			all()
		}
		p.Do(m)
	}
	all()
	s := p.State()
	digits := func(n int) string {
		if n == 0 {
			return "0"
		}
		t := ""
		for ; n > 0; n /= 10 {
			t = string(rune('0'+n%10)) + t
		}
		return t
	}
	return append(out, digits(len(s.Queue))+" "+digits(len(s.Dead))+" "+digits(p.Said())+"\n"...)
}

func TestAnyBytes(t *testing.T) {
	for seed := int64(0); seed < 12; seed++ {
		r := rand.New(rand.NewSource(seed))
		b := some(r)
		once := script.Run(b)
		if again := script.Run(bytes.Clone(b)); !bytes.Equal(once, again) {
			t.Fatalf("W6: seed %d: the same bytes are answered alike", seed)
		}
		if want := byHand(b); !bytes.Equal(once, want) {
			t.Fatalf("P30.2: seed %d: %q; want %q", seed, once, want)
		}
	}
	r := rand.New(rand.NewSource(1))
	for range 100 {
		b := make([]byte, r.Intn(300))
		for i := range b {
			b[i] = byte(r.Intn([]int{256, 16}[r.Intn(2)]))
		}
		if out := script.Run(b); len(out) == 0 || out[len(out)-1] != '\n' {
			t.Fatalf("W6: any bytes are a script: %q", b)
		}
	}
}
