package vault

import (
	"bytes"
	"cmp"
	"cubby/api"
	"cubby/code"
	"slices"
)

// item is a piece of a state: a key and a value. Items are told by rising keys: folders, then heads of messages, then their
// bytes (but those of short ones, which stand in the head), then entries, the dead, and at last the numbers.
type item struct{ key, value []byte }

const (
	kindFolder = 'f'
	kindHead   = 'm'
	kindBody   = 'n'
	kindEntry  = 'q'
	kindDead   = 'r'
	kindRest   = 's'
)

const short = 256 // bytes of a message that stand in its head

func key(kind byte, numbers ...uint64) []byte {
	out := []byte{kind}
	for _, n := range numbers {
		out = append(out, code.Num(n)...)
	}
	return out
}

// writer puts numbers and texts behind one another.
type writer struct{ b []byte }

func (w *writer) num(v uint64) { w.b = append(w.b, code.Num(v)...) }

func (w *writer) text(s string) { w.b = append(w.b, code.Text([]byte(s))...) }

func (w *writer) truth(v bool) {
	n := uint64(0)
	if v {
		n = 1
	}
	w.num(n)
}

func (w *writer) texts(l []string) {
	w.num(uint64(len(l)))
	for _, s := range l {
		w.text(s)
	}
}

func inHead(h api.Held) bool { return len(h.Body) <= short }

func headValue(h api.Held) []byte {
	var w writer
	w.num(uint64(h.Up))
	w.num(uint64(h.Size))
	w.truth(h.Has)
	w.truth(h.Gone)
	w.num(uint64(h.Used))
	w.text(h.Date)
	w.texts(h.Flags)
	if inHead(h) {
		w.text(string(h.Body))
	}
	return w.b
}

func folderValue(f api.Folder) []byte {
	var w writer
	w.text(f.Name)
	w.num(uint64(f.Next))
	w.num(uint64(f.Up))
	w.truth(f.Gone)
	return w.b
}

// entry tells an entry; its bytes only where they do not stand in its message as well.
func (w *writer) entry(e api.Entry, twin *api.Held) {
	w.num(uint64(e.Kind))
	w.text(e.Box)
	w.text(e.To)
	w.num(uint64(e.Valid))
	w.num(uint64(len(e.Uids)))
	for _, n := range e.Uids {
		w.num(uint64(n))
	}
	w.num(uint64(e.Op))
	w.texts(e.Flags)
	w.text(e.Date)
	w.truth(twin != nil)
	if twin == nil {
		w.text(string(e.Body))
	}
}

// appended is the message that an append has put into its folder, if its bytes are there.
func appended(m *api.Image, e api.Entry) *api.Held {
	if e.Kind != api.DoAppend || len(e.Uids) != 1 {
		return nil
	}
	for _, f := range m.Folders {
		if f.Valid != e.Valid {
			continue
		}
		i, ok := slices.BinarySearchFunc(f.List, e.Uids[0], func(h api.Held, uid uint32) int { return cmp.Compare(h.Uid, uid) })
		if ok && f.List[i].Has {
			return &f.List[i]
		}
	}
	return nil
}

// twin is the message that has an entry's bytes, too.
func twin(m *api.Image, e api.Entry) *api.Held {
	if h := appended(m, e); h != nil && bytes.Equal(h.Body, e.Body) {
		return h
	}
	return nil
}

// items is a state as items, by rising keys.
func items(s api.State) []item {
	var out []item
	for _, f := range s.Image.Folders {
		valid := uint64(f.Valid)
		out = append(out, item{key(kindFolder, valid), folderValue(f)})
		for _, h := range f.List {
			out = append(out, item{key(kindHead, valid, uint64(h.Uid)), headValue(h)})
			if !inHead(h) {
				out = append(out, item{key(kindBody, valid, uint64(h.Uid)), bytes.Clone(h.Body)})
			}
		}
	}
	for _, e := range s.Queue {
		var w writer
		w.entry(e, twin(&s.Image, e))
		out = append(out, item{key(kindEntry, e.Token), w.b})
	}
	for i, d := range s.Dead {
		var w writer
		w.num(uint64(d.Why))
		w.num(d.Entry.Token)
		w.entry(d.Entry, nil)
		out = append(out, item{key(kindDead, uint64(i)), w.b})
	}
	var w writer
	w.num(uint64(s.Image.Valid))
	w.num(uint64(s.Image.Clock))
	w.num(s.Token)
	out = append(out, item{key(kindRest), w.b})
	slices.SortFunc(out, func(a, b item) int { return bytes.Compare(a.key, b.key) })
	return out
}

func sameItem(a, b item) bool { return bytes.Equal(a.key, b.key) && bytes.Equal(a.value, b.value) }

// byName is the order of folders in an image.
func byName(a, b api.Folder) int {
	return cmp.Or(cmp.Compare(a.Name, b.Name), cmp.Compare(a.Valid, b.Valid))
}
