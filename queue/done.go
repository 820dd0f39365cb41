package queue

import (
	"cubby/api"
	"cubby/image"
	"cubby/plain"
	"slices"
)

// ended is a state whose first entry is done, or cannot be: what is left to be done in the entry's folder.
type ended struct {
	s  *api.State
	e  api.Entry
	at int // the folder's place; -1, if it is not there
	up uint32
}

// end takes the first entry away, and does what belongs to its kind.
func end(s api.State, up uint32, by map[int]func(ended)) (api.State, api.Entry) {
	out := plain.State(s)
	e := out.Queue[0]
	out.Queue = slices.Clone(out.Queue[1:])
	at := image.By(out.Image, e.Valid)
	if do, ok := by[e.Kind]; ok && at >= 0 {
		do(ended{&out, e, at, up})
	}
	return out, e
}

// Done takes the first entry away, which is done upstream.
func Done(s api.State, up uint32) api.State {
	if len(s.Queue) == 0 {
		return plain.State(s)
	}
	out, _ := end(s, up, map[int]func(ended){
		api.DoAppend:  ended.known,
		api.DoExpunge: ended.gone,
		api.DoDelete:  ended.closed,
	})
	return out
}

// Kill puts the first entry, which cannot be done, behind the dead.
func Kill(s api.State, why int) api.State {
	if len(s.Queue) == 0 || why < api.DeadGone || why > api.DeadRefused {
		return plain.State(s)
	}
	out, e := end(s, 0, map[int]func(ended){
		api.DoAppend:  ended.lost,
		api.DoExpunge: ended.back,
		api.DoDelete:  ended.closed,
		api.DoCreate:  ended.unmade,
	})
	out.Dead = append(out.Dead, api.Dead{Entry: e, Why: why})
	if n := len(out.Dead) - api.MaxQueue; n > 0 {
		out.Dead = slices.Clone(out.Dead[n:])
	}
	return out
}

func (x ended) folder() *api.Folder { return &x.s.Image.Folders[x.at] }

func (x ended) has(h api.Held) bool { return slices.Contains(x.e.Uids, h.Uid) }

// known gives the message that was appended the UID that upstream has given it, if no other one has that.
func (x ended) known() {
	l := x.folder().List
	if x.up == 0 || slices.ContainsFunc(l, func(h api.Held) bool { return h.Up == x.up }) {
		return
	}
	if i := slices.IndexFunc(l, x.has); i >= 0 {
		l[i].Up = x.up
	}
}

// gone takes the messages away that are expunged.
func (x ended) gone() {
	f := x.folder()
	f.List = slices.DeleteFunc(f.List, func(h api.Held) bool { return h.Gone && x.has(h) })
}

// away takes the folder away.
func (x ended) away() {
	x.s.Image.Folders = slices.Delete(x.s.Image.Folders, x.at, x.at+1)
}

func (x ended) closed() {
	if x.folder().Gone {
		x.away()
	}
}

// lost takes a message away that upstream never had.
func (x ended) lost() {
	f := x.folder()
	f.List = slices.DeleteFunc(f.List, func(h api.Held) bool { return h.Up == 0 && x.has(h) })
}

// back shows messages again that are not expunged, as far as there is room.
func (x ended) back() {
	f := x.folder()
	room := api.MaxMsgs - len(image.See(*f))
	for i := range f.List {
		if h := &f.List[i]; room > 0 && h.Gone && x.has(*h) {
			h.Gone = false
			room--
		}
	}
}

func (x ended) unmade() {
	if f := x.folder(); f.Up == 0 && f.Name != inbox {
		x.away()
	}
}
