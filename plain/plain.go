// Package plain copies the plain things of package api whole, and holds them against each other: no copy shares a list with
// what it is of.
package plain

import (
	"bytes"
	"cubby/api"
	"slices"
)

// each is a list of copies.
func each[T any](l []T, one func(T) T) []T {
	if len(l) == 0 {
		return nil
	}
	out := make([]T, 0, len(l))
	for _, x := range l {
		out = append(out, one(x))
	}
	return out
}

// Held is a copy.
func Held(h api.Held) api.Held {
	h.Flags = slices.Clone(h.Flags)
	h.Body = bytes.Clone(h.Body)
	return h
}

// Folder is a copy.
func Folder(f api.Folder) api.Folder {
	f.List = each(f.List, Held)
	return f
}

// Image is a copy.
func Image(m api.Image) api.Image {
	m.Folders = each(m.Folders, Folder)
	return m
}

// Entry is a copy.
func Entry(e api.Entry) api.Entry {
	e.Uids = slices.Clone(e.Uids)
	e.Flags = slices.Clone(e.Flags)
	e.Body = bytes.Clone(e.Body)
	return e
}

// Dead is a copy.
func Dead(d api.Dead) api.Dead {
	d.Entry = Entry(d.Entry)
	return d
}

// State is a copy.
func State(s api.State) api.State {
	s.Image = Image(s.Image)
	s.Queue = each(s.Queue, Entry)
	s.Dead = each(s.Dead, Dead)
	return s
}

// Sight is a copy.
func Sight(s api.Sight) api.Sight {
	s.Uids = slices.Clone(s.Uids)
	s.Flags = each(s.Flags, slices.Clone[[]string])
	return s
}

// Seat is a copy.
func Seat(s api.Seat) api.Seat {
	s.Sight = Sight(s.Sight)
	return s
}

// Line is a copy.
func Line(l api.Line) api.Line {
	l.Todo = slices.Clone(l.Todo)
	l.Wants = slices.Clone(l.Wants)
	return l
}
