package image

import (
	"bytes"
	"cmp"
	"cubby/api"
	"cubby/dates"
	"cubby/plain"
	"cubby/shelf"
	"cubby/utf7"
	"math"
	"slices"
)

const mostBudget = 1 << 30

// rising is what upstream tells, by rising Ups, each once.
func rising(l []api.Seen) []api.Seen {
	out := slices.DeleteFunc(slices.Clone(l), func(s api.Seen) bool { return s.Up == 0 })
	slices.SortStableFunc(out, func(a, b api.Seen) int { return cmp.Compare(a.Up, b.Up) })
	return slices.CompactFunc(out, func(a, b api.Seen) bool { return a.Up == b.Up })
}

func told(l []api.Seen, up uint32) (api.Seen, bool) {
	i, ok := slices.BinarySearchFunc(l, up, func(s api.Seen, up uint32) int { return cmp.Compare(s.Up, up) })
	if !ok {
		return api.Seen{}, false
	}
	return l[i], true
}

// Merge makes of a folder what upstream tells of its mailbox.
func Merge(m api.Image, name string, valid uint32, l []api.Seen) api.Image {
	out, _ := change(m, name, func(m *api.Image, f *api.Folder) api.Errno {
		if f.Up != 0 && f.Up != valid {
			if m.Valid == math.MaxUint32 {
				return api.ErrOver
			}
			*f = fresh(m, name)
		}
		f.Up = valid
		seen := rising(l)
		stay(f, seen)
		grow(f, seen, m.Clock)
		order(m)
		return api.OK
	})
	return out
}

// stay leaves the messages that upstream has, too, with its flags.
func stay(f *api.Folder, l []api.Seen) {
	var out []api.Held
	for _, h := range f.List {
		s, ok := told(l, h.Up)
		if !ok || h.Up == 0 || h.Gone {
			continue
		}
		if own, e := shown(s.Flags); e == api.OK {
			h.Flags = own
		}
		out = append(out, h)
	}
	f.List = out
}

// grow puts behind the others what upstream has besides, as far as there is room.
func grow(f *api.Folder, l []api.Seen, clock int) {
	var have []uint32
	for _, h := range f.List {
		have = append(have, h.Up)
	}
	for _, s := range l {
		if len(f.List) >= api.MaxMsgs || f.Next == math.MaxUint32 {
			return
		}
		when, ok := dates.Same(s.Date)
		own, e := shown(s.Flags)
		if slices.Contains(have, s.Up) || !ok || e != api.OK || s.Size < 0 || s.Size > api.MaxLiteral {
			continue
		}
		f.List = append(f.List, api.Held{Uid: f.Next, Up: s.Up, Flags: own, Date: when, Size: s.Size, Used: clock})
		f.Next++
	}
}

// Only leaves the folders that upstream has, too, and makes those that it has besides.
func Only(m api.Image, names []string) api.Image {
	out := plain.Image(m)
	out.Folders = slices.DeleteFunc(out.Folders, func(f api.Folder) bool {
		return f.Gone || f.Name != inbox && !slices.Contains(names, f.Name)
	})
	for _, name := range slices.Compact(slices.Sorted(slices.Values(names))) {
		if utf7.Right(name) && Find(out, name) < 0 && room(&out) == api.OK {
			out.Folders = append(out.Folders, fresh(&out, name))
		}
	}
	order(&out)
	return out
}

// message is the one that is wanted, if there is such a one.
func message(m *api.Image, w api.Want) *api.Held {
	i := By(*m, w.Valid)
	if i < 0 {
		return nil
	}
	l := m.Folders[i].List
	j := slices.IndexFunc(l, func(h api.Held) bool { return h.Uid == w.Uid })
	if j < 0 {
		return nil
	}
	return &l[j]
}

func use(m *api.Image, h *api.Held) {
	if m.Clock < mostClock {
		m.Clock++
	}
	h.Used = m.Clock
}

// Fill gives a message its bytes.
func Fill(m api.Image, w api.Want, body []byte) api.Image {
	out := plain.Image(m)
	if h := message(&out, w); h != nil && !h.Has && len(body) == h.Size {
		h.Has, h.Body = true, bytes.Clone(body)
		use(&out, h)
	}
	return out
}

// Use says that a message is used now.
func Use(m api.Image, w api.Want) api.Image {
	out := plain.Image(m)
	if h := message(&out, w); h != nil {
		use(&out, h)
	}
	return out
}

// Evict takes their bytes from the messages that a shelf of the budget would let go.
func Evict(m api.Image, budget int) api.Image {
	out := plain.Image(m)
	s, e := shelf.New(min(max(budget, 0), mostBudget))
	if e != api.OK {
		return out
	}
	for _, f := range out.Folders {
		for _, h := range f.List {
			if h.Has {
				s.Put(api.ID{Valid: f.Valid, Uid: h.Uid}, h.Size, h.Used, h.Up != 0)
			}
		}
	}
	for _, id := range s.Evict() {
		if h := message(&out, api.Want{Valid: id.Valid, Uid: id.Uid}); h != nil {
			h.Has, h.Body = false, nil
		}
	}
	return out
}
