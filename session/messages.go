package session

import (
	"cubby/api"
	"cubby/command"
	"cubby/flags"
	"cubby/image"
	"cubby/queue"
	"cubby/search"
	"cubby/section"
	"cubby/sets"
	"cubby/view"
	"slices"
	"strconv"
	"strings"
)

const seen = `\Seen`

// there is the messages of the sight that clients see: of those with UIDs that are given.
func (t *talk) there(uids []uint32) []api.Held {
	f, ok := selected(t.seat, t.s)
	if !ok {
		return nil
	}
	return slices.DeleteFunc(image.See(f), func(h api.Held) bool { return !slices.Contains(uids, h.Uid) })
}

// messages is those that the command's set has.
func (t *talk) messages() []api.Held {
	return t.there(view.Uids(t.seat.Sight, t.c.Set, t.c.Uid))
}

func ids(l []api.Held) []uint32 {
	var out []uint32
	for _, h := range l {
		out = append(out, h.Uid)
	}
	return out
}

// box is the name of the folder that is selected; none, if there is no such folder.
func (t *talk) box() string {
	f, _ := selected(t.seat, t.s)
	return f.Name
}

// known says that a message's flags are told.
func (t *talk) known(h api.Held) {
	if n := view.Number(t.seat.Sight, h.Uid); n > 0 && n <= len(t.seat.Sight.Flags) {
		t.seat.Sight.Flags[n-1] = slices.Clone(h.Flags)
	}
}

// want says which of the messages have no bytes, and tells whether there are some.
func (t *talk) want(l []api.Held) bool {
	for _, h := range l {
		if !h.Has {
			t.wants = append(t.wants, api.Want{Valid: t.seat.Sight.Valid, Uid: h.Uid})
		}
	}
	return len(t.wants) > 0
}

func (t *talk) shut() int {
	if !t.seat.Sight.Read {
		if s, _, e := queue.Expunge(t.s, t.box(), t.seat.Sight.Uids); e == api.OK {
			t.s = s
		}
	}
	t.sit(api.SeatIn)
	return done
}

func (t *talk) expunge() int {
	if t.seat.Sight.Read {
		return refused
	}
	if t.box() == "" {
		return done
	}
	uids := t.seat.Sight.Uids
	if t.c.Uid {
		uids = ids(t.messages())
	}
	s, _, e := queue.Expunge(t.s, t.box(), uids)
	if e != api.OK {
		return t.no("LIMIT")
	}
	t.s = s
	return done
}

func (t *talk) search() int {
	uids := t.seat.Sight.Uids
	hits := api.Reply{Tag: "*", Kind: api.ReplyHits}
	for _, h := range t.there(uids) {
		m := api.Shown{
			Seq: uint32(view.Number(t.seat.Sight, h.Uid)), Top: uint32(len(uids)), Uid: h.Uid, TopUid: uids[len(uids)-1],
			Flags: h.Flags, Size: h.Size, Body: h.Body, Has: h.Has,
		}
		if !matches(t.c.Keys, m) {
			continue
		}
		if t.c.Uid {
			hits.Nums = append(hits.Nums, m.Uid)
		} else {
			hits.Nums = append(hits.Nums, m.Seq)
		}
	}
	t.tell(hits)
	return done
}

func matches(keys []api.Key, m api.Shown) bool {
	for _, k := range keys {
		if !search.Match(k, m) {
			return false
		}
	}
	return true
}

func (t *talk) store() int {
	if t.seat.Sight.Read {
		return refused
	}
	s, _, e := queue.Store(t.s, t.box(), ids(t.messages()), t.c.Op, t.c.Flags)
	switch e {
	case api.OK:
	case api.ErrFull, api.ErrLong:
		return t.no("LIMIT")
	default:
		return refused
	}
	t.s = s
	if t.c.Silent {
		for _, h := range t.messages() {
			t.known(h)
		}
	}
	return done
}

// asksBytes tells whether an item can be told of nothing but a message's bytes.
func asksBytes(i api.Item) bool {
	return i.Kind == api.ItemEnvelope || i.Kind == api.ItemStructure || i.Kind == api.ItemBody
}

func (t *talk) fetch() int {
	l := t.messages()
	bytes := slices.ContainsFunc(t.c.Items, asksBytes)
	if bytes && t.want(l) {
		return t.no("UNAVAILABLE")
	}
	if slices.ContainsFunc(t.c.Items, func(i api.Item) bool { return i.Kind == api.ItemBody && !i.Peek }) {
		t.read(l)
	}
	if bytes {
		for _, h := range l {
			t.s.Image = image.Use(t.s.Image, api.Want{Valid: t.seat.Sight.Valid, Uid: h.Uid})
		}
	}
	flagged := slices.ContainsFunc(t.c.Items, func(i api.Item) bool { return i.Kind == api.ItemFlags })
	for _, h := range t.messages() {
		n := view.Number(t.seat.Sight, h.Uid)
		t.tell(api.Reply{Tag: "*", Kind: api.ReplyFetch, N: uint32(n), Pairs: t.pairs(h)})
		if flagged {
			t.known(h)
		}
	}
	return done
}

// read marks messages as seen that are not, if they may be written.
func (t *talk) read(l []api.Held) {
	fresh := ids(slices.DeleteFunc(slices.Clone(l), func(h api.Held) bool { return flags.Has(h.Flags, seen) }))
	if t.seat.Sight.Read || len(fresh) == 0 {
		return
	}
	if s, _, e := queue.Store(t.s, t.box(), fresh, api.AddFlags, []string{seen}); e == api.OK {
		t.s = s
	}
}

func (t *talk) pairs(h api.Held) []api.Pair {
	var out []api.Pair
	if t.c.Uid {
		out = append(out, api.Pair{Name: "UID", Value: number(h.Uid)})
	}
	for _, i := range t.c.Items {
		if i.Kind != api.ItemUid || !t.c.Uid {
			out = append(out, pair(i, h))
		}
	}
	return out
}

// pair is an item of a message.
func pair(i api.Item, h api.Held) api.Pair {
	name, _ := command.Item(i)
	p := api.Pair{Name: name}
	switch i.Kind {
	case api.ItemUid:
		p.Value = number(h.Uid)
	case api.ItemFlags:
		p.Value = "(" + strings.Join(h.Flags, " ") + ")"
	case api.ItemSize:
		p.Value = strconv.Itoa(h.Size)
	case api.ItemDate:
		p.Value, p.Lit = h.Date, true
	case api.ItemEnvelope:
		p.Value = section.Envelope(h.Body)
	case api.ItemStructure:
		p.Value = section.Structure(h.Body)
	case api.ItemBody:
		p.Value, p.Lit = body(i, h.Body)
	}
	return p
}

// body is what a BODY item asks of a message, and whether there is such a thing.
func body(i api.Item, b []byte) (string, bool) {
	found, ok := section.Of(b, i.Section)
	if !ok {
		return "NIL", false
	}
	if i.Count > 0 {
		found = section.Cut(found, i.From, i.Count)
	}
	return string(found), true
}

func (t *talk) copies() int {
	if image.Find(t.s.Image, t.c.To) < 0 {
		return t.no("TRYCREATE")
	}
	l := t.messages()
	s, made, e := queue.Copy(t.s, t.box(), ids(l), t.c.To)
	switch e {
	case api.OK:
	case api.ErrState:
		t.want(l)
		return t.no("UNAVAILABLE")
	default:
		return t.no("LIMIT")
	}
	t.s = s
	if len(l) > 0 {
		from, _ := sets.Print(sets.Of(ids(l)))
		to, _ := sets.Print(sets.Of(made))
		t.code = "COPYUID " + number(validity(s, t.c.To)) + " " + from + " " + to
	}
	return done
}
