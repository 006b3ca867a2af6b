package inflate

import (
	"phosphor/api"
	"phosphor/bits"
	"phosphor/huff"
)

const (
	maxLiterals  = 286 // and lengths
	maxDistances = 30
)

// Symbols of the code of lengths; those below are lengths themselves.
const (
	again     = 16 // the one ahead, 3 times or more
	zeros     = 17 // 0, 3 times or more
	manyZeros = 18 // 0, 11 times or more
)

// ranks are the symbols of the code of lengths in the order in which their own lengths come.
var ranks = [19]uint8{again, zeros, manyZeros, 0, 8, 7, 9, 6, 10, 5, 11, 4, 12, 3, 13, 2, 14, 1, 15}

// codes are a block's.
type codes struct{ literals, distances *huff.Table }

// header is what came by now of a dynamic block's codes.
type header struct {
	literals, distances int // how many lengths these have
	ordered             int // how many lengths the code of lengths has
	own                 [len(ranks)]byte
	nOwn                int // how many of these came
	table               *huff.Table
	symbol              int // what it said last
	lengths             [maxLiterals + maxDistances]byte
	n                   int // how many of these came
}

// count reads how many lengths there are. The three numbers are one thing: none is refused before all are there.
func (h *header) count(in *bits.Reader) api.Errno {
	v, ok := in.Bits(5 + 5 + 4)
	if !ok {
		return api.ErrShort
	}
	*h = header{literals: 257 + int(v&31), distances: 1 + int(v>>5&31), ordered: 4 + int(v>>10)}
	if h.literals > maxLiterals || h.distances > maxDistances {
		return api.ErrForm
	}
	return api.OK
}

// order reads the code of lengths.
func (h *header) order(in *bits.Reader) (e api.Errno) {
	for ; h.nOwn < h.ordered; h.nOwn++ {
		v, ok := in.Bits(3)
		if !ok {
			return api.ErrShort
		}
		h.own[ranks[h.nOwn]] = byte(v)
	}
	h.table, e = huff.New(h.own[:])
	return e
}

// say reads a symbol of the code of lengths. That the one ahead is meant where
// there is none is seen by it alone, whether the bits behind it have come or not.
func (h *header) say(in *bits.Reader) api.Errno {
	symbol, e := h.table.Read(in)
	if e != api.OK {
		return e
	}
	if symbol == again && h.n == 0 {
		return api.ErrForm
	}
	h.symbol = symbol
	return api.OK
}

// repeat reads how often the symbol is meant, and lays the lengths.
func (h *header) repeat(in *bits.Reader) api.Errno {
	n, least := 0, 1
	switch h.symbol {
	case again:
		n, least = 2, 3
	case zeros:
		n, least = 3, 3
	case manyZeros:
		n, least = 7, 11
	}
	v, ok := in.Bits(n)
	if !ok {
		return api.ErrShort
	}
	past := h.n + least + int(v)
	if past > h.literals+h.distances {
		return api.ErrForm
	}
	length := h.meant()
	for ; h.n < past; h.n++ {
		h.lengths[h.n] = length
	}
	return api.OK
}

// meant tells the length that the symbol says.
func (h *header) meant() byte {
	switch h.symbol {
	case again:
		return h.lengths[h.n-1]
	case zeros, manyZeros:
		return 0
	}
	return byte(h.symbol)
}

// whole tells whether all lengths came.
func (h *header) whole() bool { return h.n == h.literals+h.distances }

// codes deals out the codes of all lengths.
func (h *header) codes() (*codes, api.Errno) {
	literals, e := huff.New(h.lengths[:h.literals])
	if e != api.OK {
		return nil, e
	}
	distances, e := huff.New(h.lengths[h.literals:h.n])
	if e != api.OK {
		return nil, e
	}
	if h.lengths[endOfBlock] == 0 {
		return nil, api.ErrForm
	}
	return &codes{literals, distances}, api.OK
}

// fixed deals out the fixed codes. Two that are no distance fill up those of distances, so huff.New refuses neither.
func fixed() *codes {
	l, d := huff.Fixed()
	literals, _ := huff.New(l)
	distances, _ := huff.New(append(d, 5, 5))
	return &codes{literals, distances}
}
