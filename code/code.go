// Package code is layer 1: numbers and texts as bytes whose order is theirs (see shared/doc/01-code.md).
package code

import (
	"bytes"
	"cubby/api"
)

const (
	zero   = 0x00 // within a text: something else has to follow
	stuff  = 0xff // behind a zero: the zero was one of the text's own
	finish = 0x01 // behind a zero: the text ends
	digits = 8    // the most bytes that a number may have
)

// Num tells a number as a count and so many bytes, the highest first: a longer number is a greater one.
func Num(v uint64) []byte {
	out := []byte{0}
	for shift := 56; shift >= 0; shift -= 8 {
		if c := byte(v >> shift); c != 0 || len(out) > 1 {
			out = append(out, c)
		}
	}
	out[0] = byte(len(out) - 1)
	return out
}

// Text tells a text with an end that is less than whatever may stand in a longer one.
func Text(b []byte) []byte {
	out := make([]byte, 0, len(b)+2)
	for _, c := range b {
		out = append(out, c)
		if c == zero {
			out = append(out, stuff)
		}
	}
	return append(out, zero, finish)
}

// Reader reads numbers and texts, one behind the other.
type Reader struct {
	b   []byte
	at  int
	err api.Errno
}

// New is a reader at the beginning of a copy of b.
func New(b []byte) *Reader { return &Reader{b: bytes.Clone(b)} }

// What a step answers: the step that is to follow, or one of these.
const (
	over  = -1 // the thing is whole
	wrong = -2 // it has no such form
)

// scan is a thing that is being read.
type scan struct {
	value uint64
	left  int // how many of a number's bytes are to come
	text  []byte
}

func (s *scan) count(c byte) int {
	if c > digits {
		return wrong
	}
	s.left = int(c)
	if s.left == 0 {
		return over
	}
	return 1
}

func (s *scan) first(c byte) int {
	if c == 0 {
		return wrong
	}
	return s.digit(c)
}

func (s *scan) digit(c byte) int {
	s.value = s.value<<8 | uint64(c)
	s.left--
	if s.left == 0 {
		return over
	}
	return 2
}

func (s *scan) plain(c byte) int {
	if c == zero {
		return 1
	}
	s.text = append(s.text, c)
	return 0
}

func (s *scan) escaped(c byte) int {
	switch c {
	case stuff:
		s.text = append(s.text, zero)
		return 0
	case finish:
		return over
	}
	return wrong
}

// run goes through the steps, byte by byte; the place moves only behind a whole thing.
func (r *Reader) run(steps []func(byte) int) bool {
	if r.err != api.OK {
		return false
	}
	step := 0
	for i := r.at; i < len(r.b); i++ {
		step = steps[step](r.b[i])
		switch step {
		case over:
			r.at = i + 1
			return true
		case wrong:
			r.err = api.ErrForm
			return false
		}
	}
	r.err = api.ErrShort
	return false
}

// Num reads a number.
func (r *Reader) Num() uint64 {
	if r == nil {
		return 0
	}
	var s scan
	steps := [...]func(byte) int{s.count, s.first, s.digit}
	if !r.run(steps[:]) {
		return 0
	}
	return s.value
}

// Text reads a text.
func (r *Reader) Text() []byte {
	if r == nil {
		return nil
	}
	var s scan
	steps := [...]func(byte) int{s.plain, s.escaped}
	if !r.run(steps[:]) {
		return nil
	}
	return s.text
}

// Left is how many bytes are behind the reader's place.
func (r *Reader) Left() int {
	if r == nil {
		return 0
	}
	return len(r.b) - r.at
}

// Err is the first fault.
func (r *Reader) Err() api.Errno {
	if r == nil {
		return api.ErrNil
	}
	return r.err
}

// End is the first fault, of which bytes that are left are one.
func (r *Reader) End() api.Errno {
	if r == nil {
		return api.ErrNil
	}
	if r.err == api.OK && r.Left() > 0 {
		return api.ErrForm
	}
	return r.err
}
