package wal

import "cubby/api"

// Where a sector's things stand: the mark at both ends, and numbers, the highest byte first.
const (
	mark   = 0
	end    = api.Sector - 1
	inner  = 1
	number = 8 // bytes
)

// seal marks both ends with what the sector did not end with.
func seal(b, old []byte) {
	m := old[end] + 1
	if m == 0 {
		m = 1
	}
	b[mark], b[end] = m, m
}

func whole(b []byte) bool { return len(b) == api.Sector && b[mark] == b[end] }

func put(b []byte, v uint64) {
	for i := len(b) - 1; i >= 0; i-- {
		b[i] = byte(v)
		v >>= 8
	}
}

func get(b []byte) uint64 {
	var v uint64
	for _, c := range b {
		v = v<<8 | uint64(c)
	}
	return v
}

func (h head) bytes() []byte {
	b := make([]byte, api.Sector)
	for i, v := range [...]uint64{h.version, h.first, h.place, h.behind} {
		put(b[inner+i*number:inner+(i+1)*number], v)
	}
	return b
}

func readHead(b []byte) (head, bool) {
	if !whole(b) {
		return head{}, false
	}
	var v [4]uint64
	for i := range v {
		v[i] = get(b[inner+i*number : inner+(i+1)*number])
	}
	return head{v[0], v[1], v[2], v[3]}, true
}

// Where a cell's things stand.
const (
	cellNumber = inner
	cellBehind = cellNumber + number
	cellSize   = cellBehind + number
	cellPart   = cellSize + 4
	cellData   = cellPart + 2
)

func (c cell) bytes() []byte {
	b := make([]byte, api.Sector)
	put(b[cellNumber:cellBehind], c.number)
	put(b[cellBehind:cellSize], c.behind)
	put(b[cellSize:cellPart], c.size)
	put(b[cellPart:cellData], c.part)
	copy(b[cellData:end], c.data)
	return b
}

// readCell reads a sector that was written whole; one that was never written has the number 0.
func readCell(b []byte) (cell, bool) {
	if !whole(b) {
		return cell{}, false
	}
	c := cell{
		number: get(b[cellNumber:cellBehind]),
		behind: get(b[cellBehind:cellSize]),
		size:   get(b[cellSize:cellPart]),
		part:   get(b[cellPart:cellData]),
		data:   b[cellData:end],
	}
	return c, c.number > 0
}
