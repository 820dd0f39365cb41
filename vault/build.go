package vault

import (
	"bytes"
	"cubby/api"
	"cubby/code"
	"cubby/queue"
	"math"
	"slices"
)

// reader reads numbers within their bounds; ok is whether all were.
type reader struct {
	r  *code.Reader
	ok bool
}

func read(b []byte) *reader { return &reader{code.New(b), true} }

func (r *reader) upTo(most uint64) uint64 {
	n := r.r.Num()
	if n > most {
		r.ok = false
		return 0
	}
	return n
}

func (r *reader) number() uint32 { return uint32(r.upTo(math.MaxUint32)) }

func (r *reader) int() int { return int(r.upTo(math.MaxInt)) }

func (r *reader) truth() bool { return r.upTo(1) == 1 }

func (r *reader) text() string { return string(r.r.Text()) }

// many is how many things are told to follow: no more than there are bytes.
func (r *reader) many() int { return int(r.upTo(uint64(r.r.Left()))) }

func (r *reader) texts() []string {
	var out []string
	for range r.many() {
		out = append(out, r.text())
	}
	return out
}

func (r *reader) ended() bool { return r.ok && r.r.End() == api.OK }

// entry reads an entry; its bytes are its message's, where it says so.
func (r *reader) entry(m *api.Image) api.Entry {
	e := api.Entry{Kind: r.int(), Box: r.text(), To: r.text(), Valid: r.number()}
	for range r.many() {
		e.Uids = append(e.Uids, r.number())
	}
	e.Op = r.int()
	e.Flags = r.texts()
	e.Date = r.text()
	if !r.truth() {
		e.Body = []byte(r.text())
	} else if h := appended(m, e); h != nil {
		e.Body = bytes.Clone(h.Body)
	} else {
		r.ok = false
	}
	return e
}

// builder makes a state of items, which come by rising keys.
type builder struct {
	s  api.State
	at map[uint32]int // places of folders, by their validities
}

// build is the state that has just these items.
func build(l []item) (api.State, bool) {
	b := builder{at: map[uint32]int{}}
	for _, i := range l {
		if !b.take(i) {
			return api.State{}, false
		}
	}
	slices.SortFunc(b.s.Image.Folders, byName)
	if !queue.Right(b.s) || !slices.EqualFunc(items(b.s), l, sameItem) {
		return api.State{}, false
	}
	return b.s, true
}

func (b *builder) take(i item) bool {
	if len(i.key) == 0 {
		return false
	}
	k, v := read(i.key[1:]), read(i.value)
	switch i.key[0] {
	case kindFolder:
		b.folder(k, v)
	case kindHead:
		b.head(k, v)
	case kindBody:
		return b.body(k, i.value) && k.ended()
	case kindEntry:
		token := k.r.Num()
		e := v.entry(&b.s.Image)
		e.Token = token
		b.s.Queue = append(b.s.Queue, e)
	case kindDead:
		k.int()
		d := api.Dead{Why: v.int()}
		token := v.r.Num()
		d.Entry = v.entry(&b.s.Image)
		d.Entry.Token = token
		b.s.Dead = append(b.s.Dead, d)
	case kindRest:
		b.s.Image.Valid, b.s.Image.Clock, b.s.Token = v.number(), v.int(), v.r.Num()
	default:
		return false
	}
	return k.ended() && v.ended()
}

func (b *builder) folder(k, v *reader) {
	f := api.Folder{Valid: k.number(), Name: v.text(), Next: v.number(), Up: v.number(), Gone: v.truth()}
	b.at[f.Valid] = len(b.s.Image.Folders)
	b.s.Image.Folders = append(b.s.Image.Folders, f)
}

func (b *builder) head(k, v *reader) {
	at, ok := b.at[k.number()]
	k.ok = k.ok && ok
	h := api.Held{Uid: k.number(), Up: v.number(), Size: v.int(), Has: v.truth(), Gone: v.truth(), Used: v.int(), Date: v.text(), Flags: v.texts()}
	if v.r.Left() > 0 {
		h.Body = []byte(v.text())
	}
	if k.ok {
		f := &b.s.Image.Folders[at]
		f.List = append(f.List, h)
	}
}

func (b *builder) body(k *reader, body []byte) bool {
	at, ok := b.at[k.number()]
	uid := k.number()
	if !ok {
		return false
	}
	l := b.s.Image.Folders[at].List
	i := slices.IndexFunc(l, func(h api.Held) bool { return h.Uid == uid })
	if i < 0 {
		return false
	}
	l[i].Body = bytes.Clone(body)
	return true
}

// alone tells whether an item may be one of some state.
func alone(i item) bool {
	if len(i.key) == 0 {
		return false
	}
	k := read(i.key[1:])
	switch i.key[0] {
	case kindHead, kindBody:
		k.number()
		k.number()
	case kindEntry:
		k.r.Num()
	default:
		b := builder{at: map[uint32]int{}}
		return b.take(i)
	}
	return k.ended()
}
