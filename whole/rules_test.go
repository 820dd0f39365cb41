package whole

import (
	"iter"
	"math"
	"math/rand"
	"reflect"
	"testing"

	"cubby/address"
	"cubby/api"
	"cubby/audit"
	"cubby/client"
	"cubby/code"
	"cubby/command"
	"cubby/disk"
	"cubby/feed"
	"cubby/flags"
	"cubby/header"
	"cubby/house"
	"cubby/image"
	"cubby/mime"
	"cubby/proxy"
	"cubby/queue"
	"cubby/remote"
	"cubby/reply"
	"cubby/script"
	"cubby/search"
	"cubby/section"
	"cubby/session"
	"cubby/sets"
	"cubby/shelf"
	"cubby/stamp"
	"cubby/sync"
	"cubby/table"
	"cubby/token"
	"cubby/utf7"
	"cubby/vault"
	"cubby/view"
	"cubby/wal"
)

// calls is all calls of plain things.
func calls() []any {
	return []any{
		code.Num, code.Text, utf7.Encode, utf7.Decode, utf7.Right, token.Lex, token.Print, token.Quote, token.Atom,
		sets.Parse, sets.Print, sets.Has, sets.Pick, sets.Of, stamp.Parse, stamp.Print, stamp.Right, stamp.Seconds, stamp.At,
		flags.Fold, flags.All, flags.Has, flags.Do, flags.Token, flags.Number, flags.Hide, command.Parse, command.Print, command.Item,
		reply.Print, reply.Parse, header.Split, header.Fields, header.Get, header.Only, header.Fold,
		address.Parse, address.Value, address.List, address.Envelope, mime.Parse, mime.Structure, mime.Depth, mime.Type,
		section.Of, section.Find, section.Cut, section.Envelope, section.Structure, search.Match, search.Needs, search.Right,
		image.Right, image.Find, image.By, image.Names, image.See, image.Begin, image.Create, image.Delete, image.Rename, image.Add, image.Store, image.Expunge, image.Merge, image.Only, image.Fill, image.Use, image.Evict,
		queue.Right, queue.Begin, queue.Append, queue.Store, queue.Expunge, queue.Copy, queue.Create, queue.Delete, queue.Rename, queue.Done, queue.Kill, queue.Ups,
		vault.Pack, vault.Take, view.Open, view.Number, view.Uids, view.Turn, view.Right, session.Do, session.Bad, session.Greet, session.Turn,
		client.Say, client.Hear, sync.Begin, sync.Next, sync.Got, sync.Link, sync.Want, sync.Rests, audit.Check, audit.Once, audit.Alike, script.Decode,
	}
}

// maker makes values, likely ones and odd ones.
type maker struct{ r *rand.Rand }

func (m maker) text() string {
	l := []string{"", "a", "INBOX", "inbox", "b/c", "&AOk-", "\u00e9", "\xff\xfe", "a b", `\Seen`, `\deleted`, "$cub7", "1:*", "3", " 1-Jan-1970 00:00:00 +0000", "a NOOP", "a UID FETCH 1:* (FLAGS BODY[1.TEXT]<0.3>)", "* 1 FETCH (UID 1)\r\n", "t OK done\r\n", "text/plain; boundary=x", "Subject: s\r\n\r\nbody", "{3}\r\nabc", "\"q\"", "(", "%", "*", "\x00", "Content-Type: multipart/x; boundary=b\n\n--b\n\nx\n--b--", "<a@b>, \"c", "t"}
	return l[m.r.Intn(len(l))]
}

func (m maker) number() int64 {
	l := []int64{0, 1, 2, 3, 4, 5, 7, 10, 11, 16, 20, -1, 64, 200, math.MaxInt32, math.MaxUint32, 1 << 62, math.MaxInt64, math.MinInt64}
	if m.r.Intn(3) > 0 {
		return int64(m.r.Intn(5))
	}
	return l[m.r.Intn(len(l))]
}

func (m maker) fill(v reflect.Value, deep int) {
	switch v.Kind() {
	case reflect.String:
		v.SetString(m.text())
	case reflect.Bool:
		v.SetBool(m.r.Intn(2) == 0)
	case reflect.Int, reflect.Int64:
		v.SetInt(m.number())
	case reflect.Uint32, reflect.Uint64:
		v.SetUint(uint64(uint32(m.number())))
	case reflect.Uint8:
		v.SetUint(uint64(m.r.Intn(256)))
	case reflect.Slice:
		if v.Type().Elem().Kind() == reflect.Uint8 && m.r.Intn(4) > 0 {
			b := append([]byte(m.text()), "room"...)
			v.SetBytes(b[:len(b)-4])
			return
		}
		n := m.r.Intn(4)
		if deep > 8 {
			n = 0
		}
		s := reflect.MakeSlice(v.Type(), n, n+2)
		for i := range n {
			m.fill(s.Index(i), deep+1)
		}
		v.Set(s)
	case reflect.Struct:
		for i := range v.NumField() {
			m.fill(v.Field(i), deep+1)
		}
	}
}

// right makes a likely state of one that is odd, now and then.
func (m maker) argument(t reflect.Type) reflect.Value {
	v := reflect.New(t).Elem()
	m.fill(v, 0)
	if m.r.Intn(3) == 0 {
		return v
	}
	s := queue.Begin()
	s, _, _ = queue.Append(s, "INBOX", []string{"k"}, "", []byte("Subject: s\r\n\r\nb"))
	s, _ = queue.Create(s, "a")
	s, _, _ = queue.Store(s, "INBOX", []uint32{1}, api.AddFlags, []string{`\Deleted`})
	s.Image = image.Merge(s.Image, "a", 3, []api.Seen{{Up: 4, Date: " 1-Jan-1970 00:00:00 +0000", Size: 2, Flags: []string{"x"}}})
	switch t {
	case reflect.TypeFor[api.State]():
		for range m.r.Intn(4) {
			s = queue.Kill(s, 1)
		}
		return reflect.ValueOf(s)
	case reflect.TypeFor[api.Image]():
		return reflect.ValueOf(s.Image)
	case reflect.TypeFor[api.Seat]():
		return reflect.ValueOf(api.Seat{At: m.r.Intn(4), Sight: view.Open(s.Image.Folders[m.r.Intn(2)], m.r.Intn(2) == 0)})
	case reflect.TypeFor[api.Command]():
		c, _ := command.Parse([]byte([]string{"a SELECT a", "a FETCH 1 (FLAGS BODY[])", "a STORE 1 FLAGS (x)", "a COPY 1 a", "a SEARCH NOT SEEN", "a APPEND a (k) {1}\r\nx", "a LIST \"\" *"}[m.r.Intn(7)]))
		return reflect.ValueOf(c)
	case reflect.TypeFor[api.Line]():
		return reflect.ValueOf(api.Line{On: true, In: true, Phase: []int{0, 1, 2, 10, 11, 20}[m.r.Intn(6)], Todo: []string{"INBOX", "a"}, Wants: []api.Want{{Valid: 2, Uid: 1}}})
	}
	return v
}

// copied is a value that shares nothing, with the room behind the ends of its lists.
func copied(v reflect.Value) reflect.Value {
	out := reflect.New(v.Type()).Elem()
	switch v.Kind() {
	case reflect.Slice:
		if v.IsNil() {
			return out
		}
		whole := v.Slice(0, v.Cap())
		s := reflect.MakeSlice(v.Type(), v.Cap(), v.Cap())
		for i := range whole.Len() {
			s.Index(i).Set(copied(whole.Index(i)))
		}
		out.Set(s.Slice(0, v.Len()))
	case reflect.Struct:
		for i := range v.NumField() {
			out.Field(i).Set(copied(v.Field(i)))
		}
	default:
		out.Set(v)
	}
	return out
}

// unlike tells whether two values differ, with the room behind the ends of their lists.
func unlike(a, b reflect.Value) bool {
	switch a.Kind() {
	case reflect.Slice:
		if a.Len() != b.Len() || a.Cap() != b.Cap() {
			return true
		}
		a, b = a.Slice(0, a.Cap()), b.Slice(0, b.Cap())
		for i := range a.Len() {
			if unlike(a.Index(i), b.Index(i)) {
				return true
			}
		}
		return false
	case reflect.Struct:
		for i := range a.NumField() {
			if unlike(a.Field(i), b.Field(i)) {
				return true
			}
		}
		return false
	case reflect.Func:
		return false
	}
	return !reflect.DeepEqual(a.Interface(), b.Interface())
}

// scribble writes into all lists of a value.
func scribble(v reflect.Value) {
	switch v.Kind() {
	case reflect.Slice:
		v = v.Slice(0, v.Cap())
		for i := range v.Len() {
			scribble(v.Index(i))
			switch e := v.Index(i); e.Kind() {
			case reflect.Uint8, reflect.Uint32:
				e.SetUint(e.Uint() ^ 0x5a)
			case reflect.Int:
				e.SetInt(e.Int() ^ 0x5a)
			case reflect.String:
				e.SetString(e.String() + "!")
			case reflect.Struct:
				for j := range e.NumField() {
					if f := e.Field(j); f.Kind() == reflect.String {
						f.SetString(f.String() + "!")
					}
				}
			}
		}
	case reflect.Struct:
		for i := range v.NumField() {
			scribble(v.Field(i))
		}
	}
}

func all(l []reflect.Value, do func(reflect.Value) reflect.Value) []reflect.Value {
	var out []reflect.Value
	for _, v := range l {
		out = append(out, do(v))
	}
	return out
}

func differ(a, b []reflect.Value) bool {
	for i := range a {
		if unlike(a[i], b[i]) {
			return true
		}
	}
	return false
}

// What R1 to R3 say of all calls: none panics; the same arguments are answered alike; what is handed in is neither changed
// nor kept; what is handed out is new.
func TestRulesOfCalls(t *testing.T) {
	m := maker{rand.New(rand.NewSource(30))}
	for n, call := range calls() {
		f := reflect.ValueOf(call)
		for range 150 {
			var in []reflect.Value
			for i := range f.Type().NumIn() {
				in = append(in, m.argument(f.Type().In(i)))
			}
			kept := all(in, copied)
			out := f.Call(in)
			if differ(in, kept) {
				t.Fatalf("R3: call %d changes what is handed in", n)
			}
			again := f.Call(all(kept, copied))
			told := all(out, copied)
			if !reflect.DeepEqual(values(told), values(all(again, copied))) {
				t.Fatalf("R2: call %d answers otherwise", n)
			}
			for _, v := range in {
				scribble(v)
			}
			if differ(out, told) {
				t.Fatalf("R3: call %d hands out what was handed in", n)
			}
			in = all(kept, copied)
			out = f.Call(in)
			before := all(in, copied)
			for i, v := range out {
				rest := all(out, copied)
				scribble(v)
				for j := range out {
					if j != i && unlike(out[j], rest[j]) {
						t.Fatalf("R3: two answers of call %d share a list", n)
					}
				}
			}
			if differ(in, before) {
				t.Fatalf("R3: who writes into what call %d hands out changes what was handed in", n)
			}
		}
	}
}

func values(l []reflect.Value) []any {
	var out []any
	for _, v := range l {
		out = append(out, v.Interface())
	}
	return out
}

// objects is all kinds of objects: nil, their zero values, and made ones.
func objects() []any {
	d, _ := disk.New(200)
	e, _ := disk.New(200)
	w, _ := disk.New(200)
	l, _ := wal.Open(w)
	b, _ := table.Open(d)
	v, _ := vault.Open(e)
	s, _ := shelf.New(5)
	pd, _ := disk.New(2000)
	p, _ := proxy.New(pd, remote.New(house.New()), 9)
	small, _ := disk.New(1)
	sl, _ := wal.Open(small)
	sd, _ := disk.New(1)
	st, _ := table.Open(sd)
	return []any{
		(*code.Reader)(nil), new(code.Reader), code.New([]byte{1, 2, 3}), (*disk.Disk)(nil), new(disk.Disk), d.Fork(), (*wal.Log)(nil), new(wal.Log), l, sl,
		(*table.Table)(nil), new(table.Table), b, st, (*feed.Feed)(nil), new(feed.Feed), feed.New(), (*house.House)(nil), new(house.House), house.New(),
		(*remote.Remote)(nil), new(remote.Remote), remote.New(nil), remote.New(house.New()), (*shelf.Shelf)(nil), new(shelf.Shelf), s, (*vault.Vault)(nil), new(vault.Vault), v, (*proxy.Proxy)(nil), new(proxy.Proxy), p,
	}
}

func TestNoObjectPanics(t *testing.T) {
	m := maker{rand.New(rand.NewSource(31))}
	for _, o := range objects() {
		v := reflect.ValueOf(o)
		for range 60 {
			for i := range v.NumMethod() {
				f := v.Method(i)
				var in []reflect.Value
				for j := range f.Type().NumIn() {
					in = append(in, m.argument(f.Type().In(j)))
				}
				kept := all(in, copied)
				for _, r := range f.Call(in) {
					if s, ok := r.Interface().(iter.Seq2[[]byte, []byte]); ok {
						for range s {
							break
						}
					}
				}
				if differ(in, kept) {
					t.Fatalf("R3: %T: method %d changes what is handed in", o, i)
				}
			}
		}
	}
}
