package session

import (
	"cubby/api"
	"cubby/flags"
	"cubby/image"
	"cubby/queue"
	"cubby/text"
	"cubby/utf7"
	"cubby/view"
	"strconv"
)

const inbox = "INBOX"

func (t *talk) choose() int {
	i := image.Find(t.s.Image, t.c.Box)
	if i < 0 {
		t.sit(api.SeatIn)
		return refused
	}
	f := t.s.Image.Folders[i]
	read := t.c.Kind == api.CmdExamine
	t.seat = api.Seat{At: api.SeatBox, Sight: view.Open(f, read)}
	t.tell(
		api.Reply{Tag: "*", Kind: api.ReplyFlags, Flags: []string{`\Answered`, `\Deleted`, `\Draft`, `\Flagged`, `\Seen`}},
		api.Reply{Tag: "*", Kind: api.ReplyExist, N: uint32(len(t.seat.Sight.Uids))},
		api.Reply{Tag: "*", Kind: api.ReplyOk, Code: "UIDVALIDITY " + number(f.Valid), Text: "ok"},
		api.Reply{Tag: "*", Kind: api.ReplyOk, Code: "UIDNEXT " + number(f.Next), Text: "ok"},
	)
	t.code = "READ-WRITE"
	if read {
		t.code = "READ-ONLY"
	}
	return done
}

// made is what comes of a change of mailboxes.
func (t *talk) made(s api.State, e api.Errno) int {
	switch e {
	case api.OK:
		t.s = s
		return done
	case api.ErrTwice:
		return t.no("ALREADYEXISTS")
	case api.ErrNone:
		return t.no("NONEXISTENT")
	case api.ErrFull:
		return t.no("LIMIT")
	}
	return refused
}

func (t *talk) create() int { return t.made(queue.Create(t.s, t.c.Box)) }
func (t *talk) remove() int { return t.made(queue.Delete(t.s, t.c.Box)) }
func (t *talk) rename() int { return t.made(queue.Rename(t.s, t.c.Box, t.c.To)) }

// encoded is a name as it goes over the wire.
func encoded(name string) string {
	s, _ := utf7.Encode(name)
	return s
}

func (t *talk) list() int {
	if t.c.To == "" {
		return done
	}
	pattern := t.c.Box + t.c.To
	for _, name := range image.Names(t.s.Image) {
		if fits(pattern, name) {
			t.tell(api.Reply{Tag: "*", Kind: api.ReplyList, Text: encoded(name)})
		}
	}
	return done
}

// fits tells whether a pattern fits a name: for each beginning of the pattern, which beginnings of the name it fits.
func fits(pattern, name string) bool {
	if text.Small(pattern) == text.Small(inbox) {
		return name == inbox
	}
	now := make([]bool, len(name)+1)
	now[0] = true
	for i := range len(pattern) {
		p := pattern[i]
		next := make([]bool, len(name)+1)
		for n := range next {
			if p == '*' || p == '%' {
				next[n] = now[n] || n > 0 && next[n-1] && (p == '*' || name[n-1] != '/')
			} else {
				next[n] = n > 0 && now[n-1] && name[n-1] == p
			}
		}
		now = next
	}
	return now[len(name)]
}

func (t *talk) status() int {
	i := image.Find(t.s.Image, t.c.Box)
	if i < 0 {
		return t.no("NONEXISTENT")
	}
	f := t.s.Image.Folders[i]
	there := image.See(f)
	unseen := 0
	for _, h := range there {
		if !flags.Has(h.Flags, `\Seen`) {
			unseen++
		}
	}
	r := api.Reply{Tag: "*", Kind: api.ReplyState, Text: encoded(f.Name)}
	for _, item := range t.c.Items {
		switch item.Kind {
		case api.ItemMessages:
			r.Pairs = append(r.Pairs, api.Pair{Name: "MESSAGES", Value: strconv.Itoa(len(there))})
		case api.ItemUidNext:
			r.Pairs = append(r.Pairs, api.Pair{Name: "UIDNEXT", Value: number(f.Next)})
		case api.ItemValidity:
			r.Pairs = append(r.Pairs, api.Pair{Name: "UIDVALIDITY", Value: number(f.Valid)})
		case api.ItemUnseen:
			r.Pairs = append(r.Pairs, api.Pair{Name: "UNSEEN", Value: strconv.Itoa(unseen)})
		}
	}
	t.tell(r)
	return done
}

func (t *talk) put() int {
	s, uid, e := queue.Append(t.s, t.c.Box, t.c.Flags, t.c.Date, t.c.Data)
	switch e {
	case api.OK:
	case api.ErrNone:
		return t.no("TRYCREATE")
	case api.ErrFull, api.ErrLong, api.ErrOver:
		return t.no("LIMIT")
	default:
		return refused
	}
	t.s = s
	t.code = "APPENDUID " + number(validity(s, t.c.Box)) + " " + number(uid)
	return done
}

// validity is that of the folder of a name that clients see.
func validity(s api.State, name string) uint32 {
	i := image.Find(s.Image, name)
	if i < 0 {
		return 0
	}
	return s.Image.Folders[i].Valid
}
