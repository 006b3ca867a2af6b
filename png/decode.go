package png

import (
	"phosphor/api"
	"phosphor/pixel"
	"phosphor/zlib"
)

const (
	maxPixels  = 1 << 26
	maxColors  = 256 // of a palette
	colorSize  = 3   // bytes of one of a palette
	sampleSize = 2   // bytes of a sample of tRNS
)

// parts is what a file's chunks say.
type parts struct {
	head     Head
	palette  []byte // PLTE; never empty, once it was there
	clear    []byte // tRNS
	hasClear bool
	packed   []byte // all IDATs
	hasData  bool
	last     string // the kind of the chunk ahead
}

// Decode tells the image of the file at b's front.
func Decode(b []byte, pixels int) (api.Matrix, api.Errno) {
	p, e := gather(b, pixels)
	if e != api.OK {
		return api.Matrix{}, e
	}
	raw, e := p.unpack()
	if e != api.OK {
		return api.Matrix{}, e
	}
	return p.image(raw)
}

// gather goes through the chunks of an image of at most so many pixels.
func gather(b []byte, pixels int) (*parts, api.Errno) {
	l, e := split(b)
	if e != api.OK {
		return nil, e
	}
	h, e := readHead(l[0])
	if e != api.OK {
		return nil, e
	}
	if h.W*h.H > min(pixels, maxPixels) {
		return nil, api.ErrLong
	}
	p := &parts{head: h}
	for _, c := range l[1:] {
		if e := p.take(c); e != api.OK {
			return nil, e
		}
	}
	if !p.hasData || h.Color == named && len(p.palette) == 0 {
		return nil, api.ErrForm
	}
	return p, api.OK
}

// take keeps what a chunk behind the head says.
func (p *parts) take(c Chunk) api.Errno {
	fits := true
	switch c.Kind {
	case "IHDR":
		fits = false
	case "PLTE":
		fits = p.takePalette(c.Data)
	case "tRNS":
		fits = p.takeClear(c.Data)
	case "IDAT":
		fits = p.takeData(c.Data)
	case "IEND":
		fits = len(c.Data) == 0
	default:
		if isCapital(c.Kind[0]) { // without it the image would be another
			return api.ErrKind
		}
	}
	if !fits {
		return api.ErrForm
	}
	p.last = c.Kind
	return api.OK
}

// takePalette takes PLTE. Beside colours of three samples it is a proposal for
// those who can show but few; its form is asked all the same.
func (p *parts) takePalette(b []byte) bool {
	if len(p.palette) > 0 || p.hasData {
		return false
	}
	most := maxColors
	switch p.head.Color {
	case gray, grayAlpha:
		return false
	case named:
		most = 1 << p.head.Depth
	}
	if len(b) == 0 || len(b)%colorSize != 0 || len(b) > most*colorSize {
		return false
	}
	p.palette = b
	return true
}

// takeClear takes tRNS. Only where it names colours by number does it need the
// palette ahead of it.
func (p *parts) takeClear(b []byte) bool {
	if p.hasClear || p.hasData {
		return false
	}
	p.clear, p.hasClear = b, true
	switch p.head.Color {
	case named:
		return len(p.palette) > 0 && len(b) <= len(p.palette)/colorSize
	case gray, rgb:
		return len(b) == Samples(p.head.Color)*sampleSize
	}
	return false
}

// takeData takes an IDAT.
func (p *parts) takeData(b []byte) bool {
	if p.hasData && p.last != "IDAT" {
		return false
	}
	p.packed = append(p.packed, b...)
	p.hasData = true
	return true
}

// unpack tells the bytes of all rows: so many, and no more.
func (p *parts) unpack() ([]byte, api.Errno) {
	need := rawSize(p.head)
	raw, used, e := zlib.Unpack(p.packed, need)
	if e != api.OK {
		return nil, e
	}
	if len(raw) < need || used < len(p.packed) {
		return nil, api.ErrForm
	}
	return raw, api.OK
}

// image tells what the rows say.
func (p *parts) image(raw []byte) (api.Matrix, api.Errno) {
	m, e := pixel.New(p.head.W, p.head.H)
	if e != api.OK {
		return api.Matrix{}, e
	}
	undo, color := undoer(p.head, raw), p.colors()
	for r := range rows(p.head) {
		b, ok := undo(r)
		if !ok || !draw(m, r, p.head, b, color) {
			return api.Matrix{}, api.ErrForm
		}
	}
	return m, api.OK
}
