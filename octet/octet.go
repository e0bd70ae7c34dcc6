// Package octet is layer 1: numbers as bytes, the weightiest byte first, and a reader of them that may look ahead.
package octet

import (
	"bytes"
	"math/bits"

	"bowsprit/api"
)

// number is a number of any width that is put or read.
type number interface {
	uint8 | uint16 | uint32 | uint64
}

// width is how many bytes a number of that type has.
func width[T number]() int {
	return bits.Len64(uint64(^T(0))) / 8
}

// put makes new memory, for append would write into the room behind b's end, which is the caller's.
func put[T number](b []byte, x T) []byte {
	n := width[T]()
	out := make([]byte, len(b)+n)
	copy(out, b)
	for k := range n {
		out[len(out)-1-k] = byte(x >> (8 * k))
	}
	return out
}

// Put16: P1.1.
func Put16(b []byte, x uint16) []byte {
	return put(b, x)
}

// Put32: P1.1.
func Put32(b []byte, x uint32) []byte {
	return put(b, x)
}

// Put64: P1.1.
func Put64(b []byte, x uint64) []byte {
	return put(b, x)
}

// place is where a reader stands, of how many bytes, and why it is done for.
type place struct {
	at, end int
	why     api.Errno
}

// ahead stays as it was when the place is done for, for a step that fails does not move it.
func (p *place) ahead() int {
	return p.end - p.at
}

// step goes n bytes on and tells where they begin, or false. Why it is done for is never overwritten: the first reason is the one that is told.
func (p *place) step(n int) (int, bool) {
	if p.why == api.OK && n < 0 {
		p.why = api.ErrArg
	}
	if p.why == api.OK && n > p.ahead() {
		p.why = api.ErrShort
	}
	if p.why != api.OK {
		return 0, false
	}
	from := p.at
	p.at += n
	return from, true
}

// Reader has bytes of its own, and embeds its place among them.
type Reader struct {
	place
	own []byte
}

// Read (P1.2) copies b, so that a change of it later on changes nothing that is read.
func Read(b []byte) *Reader {
	return &Reader{place: place{end: len(b)}, own: bytes.Clone(b)}
}

// next is the next n bytes, which are still the reader's own; nothing, if it can't go on.
func (r *Reader) next(n int) []byte {
	if r == nil {
		return nil
	}
	from, ok := r.step(n)
	if !ok {
		return nil
	}
	return r.own[from : from+n]
}

// take needs no case of its own for a reader that can't go on: no bytes weigh 0 together, which is what has to be told then.
func take[T number](r *Reader) T {
	b := r.next(width[T]())
	weight := func(k int) T { return T(b[len(b)-1-k]) << (8 * k) }
	var x T
	for k := range len(b) {
		x += weight(k)
	}
	return x
}

// U8: P1.2.
func (r *Reader) U8() byte {
	return take[uint8](r)
}

// U16: P1.2.
func (r *Reader) U16() uint16 {
	return take[uint16](r)
}

// U32: P1.2.
func (r *Reader) U32() uint32 {
	return take[uint32](r)
}

// U64: P1.2.
func (r *Reader) U64() uint64 {
	return take[uint64](r)
}

// Raw (P1.2) makes a copy, so that what is done to it does not reach what is still ahead.
func (r *Reader) Raw(n int) []byte {
	return bytes.Clone(r.next(n))
}

// Peek (P1.3) leaves the reader as it is where there is nothing, too: who looks ahead has not asked for it yet.
func (r *Reader) Peek(k int) (byte, bool) {
	if r == nil || r.why != api.OK || k < 0 || k >= r.ahead() {
		return 0, false
	}
	return r.own[r.at+k], true
}

// Left: P1.3.
func (r *Reader) Left() int {
	if r == nil {
		return 0
	}
	return r.ahead()
}

// Err: P1.3.
func (r *Reader) Err() api.Errno {
	if r == nil {
		return api.ErrNil
	}
	return r.why
}
