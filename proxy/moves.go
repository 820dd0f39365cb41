package proxy

import (
	"cubby/api"
	"cubby/client"
	"cubby/command"
	"cubby/flags"
	"cubby/plain"
	"cubby/queue"
	"cubby/session"
	"cubby/sets"
	"cubby/sync"
	"cubby/vault"
	"strconv"
)

// What feed.Next answers.
const (
	nothing  = 0
	whole    = 1
	announce = 2
	thrown   = 3
)

// bytes feeds what comes from a session. Behind LOGOUT nobody looks at it.
func (p *Proxy) bytes(m api.Move) api.Errno {
	k := p.desks[m.Who]
	if k == nil {
		return api.ErrNone
	}
	k.feed.Put(m.Bytes)
	for k.seat.At != api.SeatOut {
		b, what := k.feed.Next()
		switch what {
		case nothing:
			return api.OK
		case announce:
			k.tell(api.Reply{Tag: "+", Kind: api.ReplyMore, Text: "ready"})
		case thrown:
			k.tell(session.Bad(api.Command{})...)
		case whole:
			if e := p.command(k, b); e != api.OK {
				return e
			}
		}
	}
	return api.OK
}

// command does what a session asks. What only counts uses is not worth a turn of the disk.
func (p *Proxy) command(k *desk, b []byte) api.Errno {
	c, e := command.Parse(b)
	if e != api.OK {
		k.tell(session.Bad(c)...)
		return api.OK
	}
	seat, s, replies, wants := session.Do(k.seat, p.state, c)
	if plain.SameButUse(s, p.state) {
		p.state = s
	} else if e := p.put(s); e == api.ErrDown {
		return e
	} else if e != api.OK {
		k.tell(api.Reply{Tag: c.Tag, Kind: api.ReplyNo, Code: "LIMIT", Text: "no"})
		return api.OK
	}
	k.seat = seat
	k.tell(replies...)
	p.line = sync.Want(p.line, wants)
	return api.OK
}

// sync does one step with upstream.
func (p *Proxy) sync(api.Move) api.Errno {
	w, ok := sync.Next(p.state, p.line)
	if !ok {
		return api.ErrLink
	}
	tag := "s" + strconv.Itoa(p.said+1)
	b, e := client.Say(w, tag)
	if e != api.OK {
		return p.unsaid()
	}
	p.said++
	answer := p.r.Line(b[:len(b)-len("\r\n")])
	if p.cut {
		p.cut = false
		p.line = sync.Link(p.line, false)
		p.r.Drop()
		return api.OK
	}
	h, e := client.Hear(w, tag, answer)
	if e != api.OK {
		h = api.Heard{}
	}
	s, l := sync.Got(p.state, p.line, w, h)
	return p.take(s, l)
}

// unsaid is what comes of a word that cannot be said.
func (p *Proxy) unsaid() api.Errno {
	l := plain.Line(p.line)
	l.Phase = 0
	s := p.state
	if len(s.Queue) > 0 {
		s = queue.Kill(s, api.DeadRefused)
	}
	return p.take(s, l)
}

// take keeps what came of a step; if there is no room for it, nothing came of it.
func (p *Proxy) take(s api.State, l api.Line) api.Errno {
	if plain.SameButUse(s, p.state) {
		p.state, p.line = s, l
		return api.OK
	}
	switch p.put(s) {
	case api.OK:
		p.line = l
	case api.ErrDown:
		return api.ErrDown
	default:
		p.line.Phase = 0
	}
	return api.OK
}

func (p *Proxy) link(m api.Move) api.Errno {
	was := p.line.On
	p.line = sync.Link(p.line, m.N != 0)
	if was && !p.line.On {
		p.r.Drop()
	}
	return api.OK
}

func (p *Proxy) cutNext(api.Move) api.Errno {
	p.cut = true
	return api.OK
}

// edit is what somebody else does upstream, whatever comes of it.
func (p *Proxy) edit(m api.Move) api.Errno {
	h, c := p.r.House(), m.Command
	switch {
	case c.Kind == api.CmdCreate:
		h.Create(c.Box)
	case c.Kind == api.CmdDelete:
		h.Delete(c.Box)
	case c.Kind == api.CmdAppend:
		h.Append(c.Box, flags.Hide(c.Flags), c.Date, c.Data)
	case c.Kind == api.CmdStore && c.Uid:
		for _, uid := range p.meant(m) {
			h.Store(m.Box, uid, c.Op, c.Flags)
		}
	case c.Kind == api.CmdExpunge && c.Uid:
		h.Expunge(m.Box, p.meant(m))
	default:
		return api.ErrArg
	}
	return api.OK
}

// meant is the messages upstream that an edit is about.
func (p *Proxy) meant(m api.Move) []uint32 {
	b, _ := p.r.House().Box(m.Box)
	var uids []uint32
	for _, msg := range b.Msgs {
		uids = append(uids, msg.Uid)
	}
	return sets.Pick(m.Command.Set, uids)
}

func (p *Proxy) reset(m api.Move) api.Errno { return p.r.House().Reset(m.Box) }

func (p *Proxy) refuse(m api.Move) api.Errno {
	p.r.Refuse(m.N)
	return api.OK
}

func (p *Proxy) arm(m api.Move) api.Errno { return p.d.Arm(m.N) }

// fall loses all that is not on the disk, and begins anew with what is.
func (p *Proxy) fall(m api.Move) api.Errno {
	p.d.Crash(m.Keep)
	p.d.Start()
	p.desks = [api.MaxSessions]*desk{}
	p.line = sync.Begin()
	p.cut = false
	p.r.Drop()
	v, e := vault.Open(p.d)
	p.down = e != api.OK
	if e != api.OK {
		return e
	}
	p.v, p.state = v, v.State()
	return api.OK
}
