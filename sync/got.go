package sync

import (
	"cubby/api"
	"cubby/image"
	"cubby/plain"
	"cubby/queue"
	"slices"
)

// news is what was heard of a word, and what comes of it.
type news struct {
	s api.State
	l api.Line
	h api.Heard
}

// Got is what comes of what was heard of a word. What is no longer the next word says nothing of what is first by now.
func Got(s api.State, l api.Line, w api.Word, h api.Heard) (api.State, api.Line) {
	n := &news{plain.State(s), plain.Line(l), h}
	if w.Kind == api.SayLogin {
		n.l.In, n.l.Phase = h.OK, begun
		return n.s, n.l
	}
	next, ok := Next(s, l)
	switch {
	case !ok || !plain.SameWord(next, w):
		n.l.Phase = begun
	case len(s.Queue) > 0:
		n.first(w.Kind)
	default:
		n.l.Wants = slices.DeleteFunc(n.l.Wants, func(w api.Want) bool {
			_, _, ok := lacks(n.s, w)
			return !ok
		})
		n.rest(w.Kind)
	}
	return n.s, n.l
}

func (n *news) done(up uint32) { n.s, n.l.Phase = queue.Done(n.s, up), begun }

func (n *news) killed(why int) { n.s, n.l.Phase = queue.Kill(n.s, why), begun }

// first is what comes of the first entry.
func (n *news) first(kind int) {
	switch kind {
	case api.SayList:
		n.listed(n.s.Queue[0])
	case api.SaySelect:
		n.selected(n.s.Queue[0])
	case api.SayLook:
		n.looked(n.s.Queue[0])
	case api.SayAppend:
		n.appended(n.s.Queue[0])
	default:
		n.tried()
	}
}

// tried is what comes of a word that upstream does, or refuses.
func (n *news) tried() {
	if n.h.OK {
		n.done(0)
	} else {
		n.killed(api.DeadRefused)
	}
}

func (n *news) listed(e api.Entry) {
	box, to := slices.Contains(n.h.Names, e.Box), slices.Contains(n.h.Names, e.To)
	switch {
	case !n.h.OK:
		n.l.Phase = begun
	case e.Kind == api.DoCreate && box, e.Kind == api.DoDelete && !box, e.Kind == api.DoRename && to && !box:
		n.done(0)
	case e.Kind == api.DoRename && !to && !box:
		n.killed(api.DeadGone)
	default:
		n.l.Phase = asked
	}
}

// folder is an entry's, if it is there.
func (n *news) folder(e api.Entry) (*api.Folder, bool) {
	i := image.By(n.s.Image, e.Valid)
	if i < 0 {
		return nil, false
	}
	return &n.s.Image.Folders[i], true
}

func (n *news) selected(e api.Entry) {
	if !n.h.OK {
		n.killed(api.DeadGone)
		return
	}
	f, ok := n.folder(e)
	if ok && f.Up == 0 {
		f.Up = n.h.Valid
	}
	switch {
	case !ok || f.Up != n.h.Valid:
		n.killed(api.DeadEpoch)
	case e.Kind != api.DoAppend && len(queue.Ups(n.s, e)) == 0:
		n.killed(api.DeadGone)
	default:
		n.l.Phase, n.l.Valid = asked, n.h.Valid
	}
}

func (n *news) looked(e api.Entry) {
	if !n.h.OK {
		n.l.Phase = begun
		return
	}
	found := len(n.h.Ups)
	if found == 0 {
		n.l.Phase = lookedAt
		return
	}
	up := n.h.Ups[found-1]
	if f, ok := n.folder(e); !ok || f.Up != n.l.Valid {
		up = 0
	}
	n.done(up)
}

func (n *news) appended(e api.Entry) {
	if !n.h.OK {
		n.killed(api.DeadRefused)
		return
	}
	up := n.h.Up
	if f, ok := n.folder(e); !ok || f.Up != n.h.Valid {
		up = 0
	}
	n.done(up)
}

// rest is what comes of what is done without an entry.
func (n *news) rest(kind int) {
	at := wanted(n.s, n.l)
	switch {
	case at >= 0 && kind == api.SaySelect:
		n.near(at)
	case at >= 0:
		n.filled(at)
	case kind == api.SayList:
		n.begin()
	case kind == api.SaySelect:
		n.choose()
	default:
		n.merged()
	}
	if n.l.Phase == round && len(n.l.Todo) == 0 {
		n.l.Phase = begun
	}
}

// near is what comes of a mailbox that was selected for the wanted one.
func (n *news) near(at int) {
	f, _, _ := lacks(n.s, n.l.Wants[at])
	if n.h.OK && n.h.Valid == f.Up {
		n.l.Phase = wanting
		return
	}
	n.forget(at)
}

// forget wants a message no longer.
func (n *news) forget(at int) {
	n.l.Wants = slices.Delete(n.l.Wants, at, at+1)
	n.l.Phase = begun
}

func (n *news) filled(at int) {
	if n.h.OK && n.h.Has {
		n.s.Image = image.Fill(n.s.Image, n.l.Wants[at], n.h.Body)
	}
	n.forget(at)
}

func (n *news) begin() {
	if !n.h.OK {
		n.l.Phase = begun
		return
	}
	n.s.Image = image.Only(n.s.Image, n.h.Names)
	n.l.Todo, n.l.Phase = image.Names(n.s.Image), round
}

// over says that the first of Todo is looked at.
func (n *news) over() {
	n.l.Todo = slices.Clone(n.l.Todo[1:])
	n.l.Phase = round
}

func (n *news) choose() {
	if !n.h.OK {
		n.over()
		return
	}
	n.l.Phase, n.l.Valid = chosen, n.h.Valid
}

func (n *news) merged() {
	if n.h.OK {
		n.s.Image = image.Merge(n.s.Image, n.l.Todo[0], n.l.Valid, n.h.List)
	}
	n.over()
}
