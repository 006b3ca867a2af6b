package inflate

import "phosphor/api"

// state is what stands next in the stream.
type state int

const (
	atBlock    state = iota // whether a block is the last one, and its kind
	atSize                  // a stored block's length, and its complement
	atStored                // its bytes
	atCounts                // how many lengths of codes a dynamic block has
	atOrder                 // the lengths of the code in which they are said
	atSaying                // a symbol of that code
	atRepeat                // how often it is meant
	atSymbol                // literals, and a symbol that is none
	atLength                // what a length has beyond its symbol
	atDistance              // a distance's symbol
	atBack                  // what a distance has beyond its symbol
	atEnd
)

// Kinds of blocks.
const (
	kindStored  = 0
	kindFixed   = 1
	kindDynamic = 2
)

const (
	endOfBlock  = 256
	firstLength = 257
)

// reach is what a symbol says: the least, and how many bits tell what is added to it.
type reach struct {
	least uint16
	bits  uint8
}

// lengths are said by the symbols from firstLength on.
var lengths = [29]reach{
	{3, 0}, {4, 0}, {5, 0}, {6, 0}, {7, 0}, {8, 0}, {9, 0}, {10, 0},
	{11, 1}, {13, 1}, {15, 1}, {17, 1}, {19, 2}, {23, 2}, {27, 2}, {31, 2},
	{35, 3}, {43, 3}, {51, 3}, {59, 3}, {67, 4}, {83, 4}, {99, 4}, {115, 4},
	{131, 5}, {163, 5}, {195, 5}, {227, 5}, {258, 0},
}

// distances are said by the symbols from 0 on.
var distances = [30]reach{
	{1, 0}, {2, 0}, {3, 0}, {4, 0}, {5, 1}, {7, 1}, {9, 2}, {13, 2},
	{17, 3}, {25, 3}, {33, 4}, {49, 4}, {65, 5}, {97, 5}, {129, 6}, {193, 6},
	{257, 7}, {385, 7}, {513, 8}, {769, 8}, {1025, 9}, {1537, 9}, {2049, 10}, {3073, 10},
	{4097, 11}, {6145, 11}, {8193, 12}, {12289, 12}, {16385, 13}, {24577, 13},
}

// step goes on from the state in which bits lacked, and falls through to those
// that follow it whatever comes. A state's bits are passed all or none, so that
// it can be taken up again.
func (d *Decoder) step(f *flow) (e api.Errno) {
	switch d.state {
	case atBlock:
		d.state, e = d.begin(f)
	case atSize:
		if e = d.size(f); e != api.OK {
			return e
		}
		d.state = atStored
		fallthrough
	case atStored:
		if e = d.stored(f); e != api.OK {
			return e
		}
		d.state = d.behind()
	case atCounts:
		if e = d.head.count(f.in); e != api.OK {
			return e
		}
		d.state = atOrder
		fallthrough
	case atOrder:
		if e = d.head.order(f.in); e != api.OK {
			return e
		}
		d.state = atSaying
		fallthrough
	case atSaying:
		if e = d.head.say(f.in); e != api.OK {
			return e
		}
		d.state = atRepeat
		fallthrough
	case atRepeat:
		if e = d.head.repeat(f.in); e != api.OK {
			return e
		}
		d.state, e = d.deal()
	default:
		return d.stepSymbol(f)
	}
	return e
}

// stepSymbol goes on likewise within a block of symbols.
func (d *Decoder) stepSymbol(f *flow) (e api.Errno) {
	switch d.state {
	case atSymbol:
		if e = d.literals(f); e != api.OK {
			return e
		}
		if d.symbol == endOfBlock {
			d.state = d.behind()
			return api.OK
		}
		d.state = atLength
		fallthrough
	case atLength:
		if d.length, e = f.add(lengths[d.symbol-firstLength]); e != api.OK {
			return e
		}
		d.state = atDistance
		fallthrough
	case atDistance:
		if d.symbol, e = d.codes.distances.Read(f.in); e != api.OK {
			return e
		}
		d.state = atBack
		fallthrough
	case atBack:
		if e = d.back(f); e != api.OK {
			return e
		}
		d.state = atSymbol
	}
	return api.OK
}

// begin tells the state behind a block's first bits.
func (d *Decoder) begin(f *flow) (state, api.Errno) {
	v, ok := f.in.Bits(3)
	if !ok {
		return atBlock, api.ErrShort
	}
	d.last = v&1 == 1
	switch v >> 1 {
	case kindStored:
		return atSize, api.OK
	case kindFixed:
		d.codes = d.fixedCodes()
		return atSymbol, api.OK
	case kindDynamic:
		return atCounts, api.OK
	}
	return atBlock, api.ErrForm
}

// behind tells the state behind a block.
func (d *Decoder) behind() state {
	if d.last {
		return atEnd
	}
	return atBlock
}

// size reads a stored block's length.
func (d *Decoder) size(f *flow) api.Errno {
	f.in.Align()
	v, ok := f.in.Bits(32)
	if !ok {
		return api.ErrShort
	}
	if v&0xFFFF != ^v>>16 {
		return api.ErrForm
	}
	d.left = int(v & 0xFFFF)
	return api.OK
}

// stored lays what there is of a stored block.
func (d *Decoder) stored(f *flow) api.Errno {
	n := min(d.left, f.in.Left()/8)
	if n > d.most-d.window.n {
		return api.ErrLong
	}
	b, _ := f.in.Bytes(n)
	for _, c := range b {
		d.lay(f, c)
	}
	d.left -= n
	if d.left > 0 {
		return api.ErrShort
	}
	return api.OK
}

// deal tells the state behind what was said of a dynamic block's codes: they are made of it when it is whole.
func (d *Decoder) deal() (state, api.Errno) {
	if !d.head.whole() {
		return atSaying, api.OK
	}
	c, e := d.head.codes()
	if e != api.OK {
		return atSaying, e
	}
	d.codes = c
	return atSymbol, api.OK
}

// fixedCodes makes them once: a stream may be full of short blocks.
func (d *Decoder) fixedCodes() *codes {
	if d.fixed == nil {
		d.fixed = fixed()
	}
	return d.fixed
}

// literals lays literals up to a symbol that is none, and reads that too.
func (d *Decoder) literals(f *flow) api.Errno {
	for {
		symbol, e := d.codes.literals.Read(f.in)
		if e != api.OK {
			return e
		}
		if symbol >= firstLength+len(lengths) {
			return api.ErrForm
		}
		if symbol >= endOfBlock {
			d.symbol = symbol
			return api.OK
		}
		if d.window.n == d.most {
			return api.ErrLong
		}
		d.lay(f, byte(symbol))
	}
}

// back reads what a distance has beyond its symbol, and lays the bytes from there once more.
func (d *Decoder) back(f *flow) api.Errno {
	if d.symbol >= len(distances) {
		return api.ErrForm
	}
	distance, e := f.add(distances[d.symbol])
	if e != api.OK {
		return e
	}
	if distance > d.window.n {
		return api.ErrForm
	}
	if d.length > d.most-d.window.n {
		return api.ErrLong
	}
	for range d.length {
		d.lay(f, d.window.back(distance))
	}
	return api.OK
}

// lay makes a byte that is certain.
func (d *Decoder) lay(f *flow, c byte) {
	d.window.put(c)
	f.out = append(f.out, c)
}

// add reads what a symbol says beyond its least.
func (f *flow) add(r reach) (int, api.Errno) {
	v, ok := f.in.Bits(int(r.bits))
	if !ok {
		return 0, api.ErrShort
	}
	return int(r.least) + int(v), api.OK
}
