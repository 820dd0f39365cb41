package table

import (
	"bytes"
	"cubby/api"
	"cubby/code"
)

// A record is this name, how many changes there are, of each three numbers (is the key dropped, the lengths of key and
// value), and then all keys and values as they are.
const name = "table"

const (
	overhead = 8                 // the most bytes that a change's numbers have
	opening  = len(name) + 2 + 9 // the most bytes ahead of the first one's
)

func record(l []api.Change) []byte {
	out := code.Text([]byte(name))
	out = append(out, code.Num(uint64(len(l)))...)
	for _, c := range l {
		drop := uint64(0)
		if c.Drop {
			drop = 1
		}
		out = append(out, code.Num(drop)...)
		out = append(out, code.Num(uint64(len(c.Key)))...)
		out = append(out, code.Num(uint64(len(c.Value)))...)
	}
	for _, c := range l {
		out = append(out, c.Key...)
		out = append(out, c.Value...)
	}
	return out
}

// lengths are a change's, ahead of its bytes.
type lengths struct {
	drop       bool
	key, value int
}

func read(b []byte) ([]api.Change, bool) {
	r := code.New(b)
	if string(r.Text()) != name {
		return nil, false
	}
	n := r.Num()
	if n == 0 || n > uint64(len(b)) {
		return nil, false
	}
	var heads []lengths
	for range n {
		h, ok := length(r)
		if !ok {
			return nil, false
		}
		heads = append(heads, h)
	}
	if r.Err() != api.OK {
		return nil, false
	}
	return parts(b[len(b)-r.Left():], heads)
}

func length(r *code.Reader) (lengths, bool) {
	drop, key, value := r.Num(), r.Num(), r.Num()
	if r.Err() != api.OK || drop > 1 || key == 0 || key > api.MaxKey || value > api.MaxRecord || drop == 1 && value > 0 {
		return lengths{}, false
	}
	return lengths{drop == 1, int(key), int(value)}, true
}

func parts(b []byte, heads []lengths) ([]api.Change, bool) {
	var out []api.Change
	for _, h := range heads {
		if h.key+h.value > len(b) {
			return nil, false
		}
		out = append(out, api.Change{Key: bytes.Clone(b[:h.key]), Value: bytes.Clone(b[h.key : h.key+h.value]), Drop: h.drop})
		b = b[h.key+h.value:]
	}
	return out, len(b) == 0
}
