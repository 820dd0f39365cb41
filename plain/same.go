package plain

import (
	"bytes"
	"cubby/api"
	"slices"
)

// SameHeld tells whether all is the same.
func SameHeld(a, b api.Held) bool {
	return a.Uid == b.Uid && a.Up == b.Up && slices.Equal(a.Flags, b.Flags) && a.Date == b.Date && a.Size == b.Size &&
		a.Has == b.Has && bytes.Equal(a.Body, b.Body) && a.Gone == b.Gone && a.Used == b.Used
}

// SameEntry tells whether all is the same.
func SameEntry(a, b api.Entry) bool {
	return a.Token == b.Token && a.Kind == b.Kind && a.Box == b.Box && a.To == b.To && a.Valid == b.Valid &&
		slices.Equal(a.Uids, b.Uids) && a.Op == b.Op && slices.Equal(a.Flags, b.Flags) && a.Date == b.Date && bytes.Equal(a.Body, b.Body)
}

// SameWord tells whether all is the same.
func SameWord(a, b api.Word) bool {
	return a.Kind == b.Kind && a.Box == b.Box && a.To == b.To && slices.Equal(a.Ups, b.Ups) && a.Op == b.Op &&
		slices.Equal(a.Flags, b.Flags) && a.Date == b.Date && bytes.Equal(a.Body, b.Body) && a.Token == b.Token
}

func sameDead(a, b api.Dead) bool { return a.Why == b.Why && SameEntry(a.Entry, b.Entry) }

// butUse tells whether all but the uses is the same.
func butUse(a, b api.Held) bool {
	a.Used, b.Used = 0, 0
	return SameHeld(a, b)
}

func folderButUse(a, b api.Folder) bool {
	return a.Name == b.Name && a.Valid == b.Valid && a.Next == b.Next && a.Up == b.Up && a.Gone == b.Gone && slices.EqualFunc(a.List, b.List, butUse)
}

// SameButUse tells whether two states are the same in all but what counts uses.
func SameButUse(a, b api.State) bool {
	return a.Image.Valid == b.Image.Valid && a.Token == b.Token && slices.EqualFunc(a.Image.Folders, b.Image.Folders, folderButUse) &&
		slices.EqualFunc(a.Queue, b.Queue, SameEntry) && slices.EqualFunc(a.Dead, b.Dead, sameDead)
}
