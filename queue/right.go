package queue

import (
	"cubby/api"
	"cubby/dates"
	"cubby/flags"
	"cubby/image"
	"cubby/plain"
	"cubby/utf7"
	"slices"
)

// Right tells whether a state is right.
func Right(s api.State) bool {
	if s.Token < 1 || s.Token > lastToken || len(s.Queue) > api.MaxQueue || len(s.Dead) > api.MaxQueue || !image.Right(s.Image) {
		return false
	}
	var last uint64
	for _, e := range s.Queue {
		if e.Token <= last || e.Token >= s.Token || !rightEntry(e) {
			return false
		}
		last = e.Token
	}
	var tokens []uint64
	for _, d := range s.Dead {
		if d.Why < api.DeadGone || d.Why > api.DeadRefused || d.Entry.Token < 1 || d.Entry.Token >= s.Token || !rightEntry(d.Entry) {
			return false
		}
		tokens = append(tokens, d.Entry.Token)
	}
	slices.Sort(tokens)
	return len(slices.Compact(tokens)) == len(s.Dead)
}

// rightEntry tells whether an entry has what its kind has, and nothing else.
func rightEntry(e api.Entry) bool {
	own := api.Entry{Token: e.Token, Kind: e.Kind, Box: e.Box, Valid: e.Valid}
	ok := utf7.Right(e.Box) && e.Valid > 0
	switch e.Kind {
	case api.DoAppend:
		own.Uids, own.Flags, own.Date, own.Body = e.Uids, e.Flags, e.Date, e.Body
		ok = ok && len(e.Uids) == 1 && rising(e.Uids) && rightFlags(e.Flags) && rightDate(e.Date) && len(e.Body) <= api.MaxLiteral && !zero(e.Body)
	case api.DoStore:
		own.Uids, own.Op, own.Flags = e.Uids, e.Op, e.Flags
		ok = ok && len(e.Uids) > 0 && rising(e.Uids) && e.Op >= api.SetFlags && e.Op <= api.RemoveFlags && rightFlags(e.Flags)
	case api.DoExpunge:
		own.Uids = e.Uids
		ok = ok && len(e.Uids) > 0 && rising(e.Uids)
	case api.DoCreate, api.DoDelete:
	case api.DoRename:
		own.To = e.To
		ok = ok && utf7.Right(e.To)
	default:
		return false
	}
	return ok && plain.SameEntry(own, e)
}

// rising tells whether UIDs rise, from 1 on.
func rising(l []uint32) bool {
	var last uint32
	for _, n := range l {
		if n <= last {
			return false
		}
		last = n
	}
	return true
}

func rightFlags(l []string) bool {
	all, e := flags.All(l)
	return e == api.OK && slices.Equal(flags.Hide(all), l)
}

func rightDate(date string) bool {
	s, ok := dates.Same(date)
	return ok && s == date
}
