// Package pack is layer 1: numbers as bytes, and a reader of them. See shared/doc/01-pack.md.
package pack

import (
	"bytes"
	"iter"
)

const (
	width   = 7          // bits of the number that one byte holds
	more    = 1 << width // added to each byte that isn't the last one
	longest = 9          // bytes of the greatest number
)

// Put answers b's bytes and behind them those of the numbers; a number below 0 counts as 0.
func Put(b []byte, xs ...int) []byte {
	size := len(b)
	for _, x := range xs {
		size += Size(x)
	}
	// b's spare room is the caller's, so the bytes go into memory of their own.
	out := append(make([]byte, 0, size), b...)
	for _, x := range xs {
		for x = max(x, 0); x >= more; x >>= width {
			out = append(out, byte(x%more)+more)
		}
		out = append(out, byte(x))
	}
	return out
}

// Take answers the number that b begins with, and how many bytes it has; 0 and 0 if b begins with none.
func Take(b []byte) (int, int) {
	x := 0
	for i, c := range b[:min(len(b), longest)] {
		x |= int(c%more) << (width * i)
		if c >= more {
			continue
		}
		if c == 0 && i > 0 { // fewer bytes would hold the number
			return 0, 0
		}
		return x, i + 1
	}
	return 0, 0
}

// Size answers how many bytes the number has; one below 0 counts as 0.
func Size(x int) int {
	n := 1
	for ; x >= more; x >>= width {
		n++
	}
	return n
}

// Numbers goes over the numbers that stand one behind the other from the front of b on:
// of each the place in b at which it begins, and itself. It ends where no number begins.
func Numbers(b []byte) iter.Seq2[int, int] {
	own := bytes.Clone(b) // what the caller does to b behind the call isn't seen
	return func(yield func(int, int) bool) {
		for at := 0; ; {
			x, n := Take(own[at:])
			if n == 0 || !yield(at, x) {
				return
			}
			at += n
		}
	}
}

// Reader goes through bytes from the front and remembers its first fault.
type Reader struct {
	left []byte // none behind a fault, so that nothing is taken any more
	bad  bool
}

// New answers a reader of a copy of b.
func New(b []byte) *Reader {
	return &Reader{left: bytes.Clone(b)}
}

// Number takes a number, as Take does; 0 at a fault and behind it.
func (r *Reader) Number() int {
	if r == nil {
		return 0
	}
	x, n := Take(r.left)
	if n == 0 {
		r.fail()
		return 0
	}
	r.left = r.left[n:]
	return x
}

// Byte takes one byte; 0 at a fault and behind it.
func (r *Reader) Byte() byte {
	p := r.piece(1)
	if len(p) == 0 {
		return 0
	}
	return p[0]
}

// Bytes takes n bytes; none at a fault and behind it.
func (r *Reader) Bytes(n int) []byte {
	return bytes.Clone(r.piece(n))
}

// Left answers how many bytes are left; 0 behind a fault.
func (r *Reader) Left() int {
	if r == nil {
		return 0
	}
	return len(r.left)
}

// Bad answers whether there was a fault.
func (r *Reader) Bad() bool {
	return r != nil && r.bad
}

// End answers whether there was no fault, and no byte is left.
func (r *Reader) End() bool {
	return r != nil && !r.bad && len(r.left) == 0
}

// piece takes n bytes as a part of the reader's own memory, which must not be handed out.
func (r *Reader) piece(n int) []byte {
	if r == nil {
		return nil
	}
	if n < 0 || n > len(r.left) {
		r.fail()
		return nil
	}
	p := r.left[:n]
	r.left = r.left[n:]
	return p
}

func (r *Reader) fail() {
	r.left, r.bad = nil, true
}
