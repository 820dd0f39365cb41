package image

import (
	"cubby/api"
	"cubby/dates"
	"cubby/utf7"
	"slices"
)

// Right tells whether an image is right.
func Right(m api.Image) bool {
	if m.Clock < 0 || m.Clock > mostClock || len(m.Folders) > mostFolders || len(Names(m)) > api.MaxBoxes || Find(m, inbox) < 0 {
		return false
	}
	var valids []uint32
	for i := range m.Folders {
		f := &m.Folders[i]
		if i > 0 && !ahead(&m.Folders[i-1], f) || f.Valid < 1 || f.Valid >= m.Valid || !rightFolder(f, m.Clock) {
			return false
		}
		valids = append(valids, f.Valid)
	}
	return unlike(valids) && unlike(Names(m))
}

// ahead tells whether a stands ahead of b.
func ahead(a, b *api.Folder) bool {
	return a.Name < b.Name || a.Name == b.Name && a.Valid < b.Valid
}

// unlike tells whether no two are alike.
func unlike[T uint32 | string](l []T) bool {
	sorted := slices.Sorted(slices.Values(l))
	return len(slices.Compact(sorted)) == len(l)
}

func rightFolder(f *api.Folder, clock int) bool {
	if !utf7.Right(f.Name) || f.Next < 1 || len(f.List) > mostHeld || count(f) > api.MaxMsgs {
		return false
	}
	var ups []uint32
	var last uint32
	for i := range f.List {
		h := &f.List[i]
		if h.Uid <= last || h.Uid >= f.Next || !rightHeld(h) || h.Used < 0 || h.Used > clock {
			return false
		}
		last = h.Uid
		if h.Up > 0 {
			ups = append(ups, h.Up)
		}
	}
	return unlike(ups)
}

func rightHeld(h *api.Held) bool {
	own, e := shown(h.Flags)
	when, ok := dates.Same(h.Date)
	if e != api.OK || !slices.Equal(own, h.Flags) || !ok || when != h.Date || h.Size < 0 || h.Size > api.MaxLiteral {
		return false
	}
	if h.Has {
		return len(h.Body) == h.Size
	}
	return h.Up > 0 && len(h.Body) == 0
}
