// Package quad is layer 1: unsigned integers as bytes, the highest byte first. See shared/doc/01-quad.md.
package quad

import (
	"syndic/api"
)

// The least width of a number, and the greatest one, in bytes.
const (
	minWidth = 1
	maxWidth = 4
)

// Reader takes numbers and bytes from the front of what it was made of.
type Reader struct {
	b   []byte
	at  int
	err api.Errno
}

// Put answers b, and behind it the lowest w bytes of each number.
func Put(b []byte, w int, numbers ...int) []byte {
	w = held(w)
	// All the room at once: append on b itself could write into b's spare room.
	out := make([]byte, len(b), len(b)+w*len(numbers))
	copy(out, b)
	for _, n := range numbers {
		for shift := 8 * (w - 1); shift >= 0; shift -= 8 {
			out = append(out, byte(uint64(n)>>shift))
		}
	}
	return out
}

// Fits tells whether each number is from 0 to 256^w - 1.
func Fits(w int, numbers ...int) bool {
	bits := 8 * held(w)
	for _, n := range numbers {
		// A number below 0 has its highest bits set as a uint64, so one question answers both edges.
		if uint64(n)>>bits != 0 {
			return false
		}
	}
	return true
}

// Read answers a reader of b, at its beginning.
func Read(b []byte) *Reader {
	r := &Reader{b: make([]byte, len(b))}
	// The caller may change b later, and the reader must not see it.
	copy(r.b, b)
	return r
}

// Num takes the number in the next w bytes.
func (r *Reader) Num(w int) int {
	n := 0
	for _, x := range r.take(held(w)) {
		n = n<<8 | int(x)
	}
	return n
}

// Bytes takes the next n bytes.
func (r *Reader) Bytes(n int) []byte {
	piece := r.take(max(n, 0))
	out := make([]byte, len(piece))
	copy(out, piece)
	return out
}

// Left answers how many bytes weren't taken yet.
func (r *Reader) Left() int {
	if r == nil {
		return 0
	}
	return len(r.b) - r.at
}

// At answers how many bytes were taken.
func (r *Reader) At() int {
	if r == nil {
		return 0
	}
	return r.at
}

// Err answers OK as long as all that was asked for was there.
func (r *Reader) Err() api.Errno {
	if r == nil {
		return api.ErrNil
	}
	return r.err
}

// take moves on by n bytes (not below 0) and answers them, as a piece of the reader's own memory: it isn't to be handed out.
func (r *Reader) take(n int) []byte {
	if r == nil {
		return nil
	}
	// Once something was missing nothing is taken, even if it would be there: a later field must not be read from an earlier one's place.
	if r.err != api.OK {
		goto missing
	}
	if n > r.Left() {
		goto missing
	}
	r.at += n
	return r.b[r.at-n : r.at]

missing:
	r.err = api.ErrEnd
	return nil
}

// held keeps a width within its bounds.
func held(w int) int {
	return min(max(w, minWidth), maxWidth)
}
