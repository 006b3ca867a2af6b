package png

import (
	"iter"

	"phosphor/api"
	"phosphor/filter"
	"phosphor/pixel"
)

// pixelSize is how many bytes of a matrix a pixel has.
const pixelSize = 4

// row is one of those that an image's data are made of.
type row struct {
	pass filter.Pass
	y    int // its number in the pass
	w    int // pixels
}

// rows goes over an image's, pass by pass.
func rows(h Head) iter.Seq[row] {
	return func(yield func(row) bool) {
		for _, p := range passes(h) {
			w, high := filter.Size(p, h.W, h.H)
			for y := range high {
				if !yield(row{p, y, w}) {
					return
				}
			}
		}
	}
}

// passes tells those that an image comes in.
func passes(h Head) []filter.Pass {
	if h.Lace == 0 {
		return []filter.Pass{{DX: 1, DY: 1}}
	}
	return filter.Passes()
}

// rawSize tells how many bytes all rows need, each with its filter ahead of it.
func rawSize(h Head) int {
	n := 0
	for r := range rows(h) {
		n += 1 + r.size(h)
	}
	return n
}

// step tells how far apart filters look: a whole pixel, but a byte at least.
func step(h Head) int { return filter.Row(1, Samples(h.Color), h.Depth) }

// size tells how many bytes a row needs, its filter aside.
func (r row) size(h Head) int { return filter.Row(r.w, Samples(h.Color), h.Depth) }

// spot tells the bytes of m that are the row's pixel x.
func (r row) spot(m api.Matrix, x int) []byte {
	p := r.pass
	from := ((p.Y+r.y*p.DY)*m.W + p.X + x*p.DX) * pixelSize
	past := from + pixelSize
	return m.P[from:past:past]
}

// undoer makes a function that tells raw's rows without their filters, one a
// call; false, if a row's filter is none. It keeps the row that it told last,
// for filters look at it; nothing is ahead of a pass's first one.
func undoer(h Head, raw []byte) func(r row) ([]byte, bool) {
	var ahead []byte
	return func(r row) ([]byte, bool) {
		if r.y == 0 {
			ahead = nil
		}
		kind, past := int(raw[0]), 1+r.size(h)
		b, e := filter.Undo(kind, raw[1:past:past], ahead, step(h))
		raw, ahead = raw[past:], b
		return b, e == api.OK
	}
}

// doer makes a function that tells m's rows with a filter, and its number ahead
// of them, one a call. It keeps the row that it was asked for last.
func doer(h Head, m api.Matrix, kind int) func(r row) []byte {
	var ahead []byte
	return func(r row) []byte {
		if r.y == 0 {
			ahead = nil
		}
		now := pick(m, r)
		b, e := filter.Do(kind, now, ahead, step(h))
		if e != api.OK {
			return nil
		}
		ahead = now
		return append([]byte{byte(kind)}, b...)
	}
}

// draw lays a row's pixels where they stand in m; false, if one has no colour.
func draw(m api.Matrix, r row, h Head, b []byte, color colorer) bool {
	n := Samples(h.Color)
	l, e := filter.Samples(b, h.Depth, r.w*n)
	if e != api.OK {
		return false
	}
	for x := range r.w {
		c, ok := color(l[x*n : (x+1)*n : (x+1)*n])
		if !ok {
			return false
		}
		lay(r.spot(m, x), c)
	}
	return true
}

// pick tells a row's pixels, as they stand in m.
func pick(m api.Matrix, r row) []byte {
	b := make([]byte, 0, r.w*pixelSize)
	for x := range r.w {
		b = append(b, r.spot(m, x)...)
	}
	return b
}

// lay makes c the pixel at p's front.
func lay(p []byte, c pixel.Color) { p[0], p[1], p[2], p[3] = c[0], c[1], c[2], c[3] }
