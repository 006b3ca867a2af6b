// Package bits: numbers that are checked, bits of bytes. See doc/01-bits.md.
package bits

import "slices"

// maxProduct is the greatest product that Mul tells.
const maxProduct = 1 << 40

// Reader goes through bits.
type Reader struct {
	b  []byte
	at int // bits that were passed
}

// NewReader reads a copy: what happens to b behind this call is not to be seen.
func NewReader(b []byte) *Reader {
	return &Reader{b: slices.Clone(b)}
}

// Bits tells the next n bits, and passes them.
func (r *Reader) Bits(n int) (uint32, bool) {
	v, ok := r.Peek(n)
	if ok {
		r.at += n
	}
	return v, ok
}

// Peek tells the next n bits.
func (r *Reader) Peek(n int) (uint32, bool) {
	if n < 0 || n > 32 || n > r.Left() {
		return 0, false
	}
	first, past := r.at>>3, (r.at+n+7)>>3
	var v uint64 // 32 bits that begin within a byte stand in five bytes
	for i, c := range r.b[first:past:past] {
		v |= uint64(c) << (8 * i)
	}
	return uint32(lowest(v>>(r.at&7), n)), true
}

// Align goes to the next byte's begin, and tells how many bits it passed.
func (r *Reader) Align() int {
	n := -r.at & 7
	r.at += n
	return n
}

// Bytes tells the next n bytes, and passes them.
func (r *Reader) Bytes(n int) ([]byte, bool) {
	first := r.at >> 3
	if r.at&7 != 0 || n < 0 || n > len(r.b)-first {
		return nil, false
	}
	past := first + n
	r.at = past << 3
	return slices.Clone(r.b[first:past:past]), true
}

// At tells how many bits were passed.
func (r *Reader) At() int { return r.at }

// Left tells how many bits are left.
func (r *Reader) Left() int { return len(r.b)<<3 - r.at }

// Writer lays them.
type Writer struct {
	b    []byte // those that are whole
	rest uint64 // the bits behind them, the first one the lowest
	n    int    // how many these are; fewer than 8 between two calls
}

// NewWriter has laid nothing.
func NewWriter() *Writer { return &Writer{} }

// Bits lays the lowest n bits of v.
func (w *Writer) Bits(v uint32, n int) {
	if n < 1 || n > 32 {
		return
	}
	w.rest |= lowest(uint64(v), n) << w.n
	w.n += n
	for w.n >= 8 {
		w.b = append(w.b, byte(w.rest))
		w.rest >>= 8
		w.n -= 8
	}
}

// Align lays bits 0 up to the next byte's begin.
func (w *Writer) Align() {
	if w.n > 0 {
		w.Bits(0, 8-w.n)
	}
}

// Bytes lays b from the next byte's begin on.
func (w *Writer) Bytes(b []byte) {
	w.Align()
	w.b = append(w.b, b...)
}

// Done tells all bytes. The writer may go on, so they are no memory of its own.
func (w *Writer) Done() []byte {
	whole := w.b[:len(w.b):len(w.b)]
	if w.n > 0 {
		return append(whole, byte(w.rest)) // no spare room: append takes new memory
	}
	return slices.Clone(whole)
}

// Mul multiplies, and refuses what is below 0 or too great on the way.
func Mul(l ...int) (int, bool) {
	product := 1
	for _, n := range l {
		if n < 0 || product > 0 && n > maxProduct/product { // dividing cannot overflow
			return 0, false
		}
		product *= n
	}
	return product, true
}

// Big tells the number of four bytes, the highest first.
func Big(b []byte) uint32 {
	if len(b) < 4 {
		return 0
	}
	return uint32(b[0])<<24 | uint32(b[1])<<16 | uint32(b[2])<<8 | uint32(b[3])
}

// Reverse tells the lowest n bits of v the other way round.
func Reverse(v uint32, n int) uint32 {
	if n < 0 || n > 32 {
		return 0
	}
	var back uint32
	for range n {
		back = back<<1 | v&1
		v >>= 1
	}
	return back
}

// lowest tells the lowest n bits of v, n being 0 to 32.
func lowest(v uint64, n int) uint64 { return v & (1<<n - 1) }
