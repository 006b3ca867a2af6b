package png

import (
	"slices"

	"phosphor/api"
	"phosphor/filter"
	"phosphor/pixel"
)

const opaque = 255

// colorer tells the colour of a pixel with such samples; false, if they name none.
type colorer func(samples []int) (pixel.Color, bool)

// colors makes the one that an image needs.
func (p *parts) colors() colorer {
	depth, unseen := p.head.Depth, p.unseen()
	switch p.head.Color {
	case named:
		return p.byNumber()
	case gray:
		return func(s []int) (pixel.Color, bool) {
			v := eight(s[0], depth)
			return pixel.Color{v, v, v, alpha(s, unseen)}, true
		}
	case grayAlpha:
		return func(s []int) (pixel.Color, bool) {
			v := eight(s[0], depth)
			return pixel.Color{v, v, v, eight(s[1], depth)}, true
		}
	case rgb:
		return func(s []int) (pixel.Color, bool) {
			return pixel.Color{eight(s[0], depth), eight(s[1], depth), eight(s[2], depth), alpha(s, unseen)}, true
		}
	}
	return func(s []int) (pixel.Color, bool) {
		return pixel.Color{eight(s[0], depth), eight(s[1], depth), eight(s[2], depth), eight(s[3], depth)}, true
	}
}

// byNumber makes the one that looks colours up in the palette. They are put
// together once: an image has more pixels than colours, most often.
func (p *parts) byNumber() colorer {
	l := make([]pixel.Color, len(p.palette)/colorSize)
	for i := range l {
		b := p.palette[i*colorSize:]
		l[i] = pixel.Color{b[0], b[1], b[2], opaque}
		if i < len(p.clear) {
			l[i][3] = p.clear[i]
		}
	}
	return func(s []int) (pixel.Color, bool) {
		if s[0] >= len(l) {
			return pixel.Color{}, false
		}
		return l[s[0]], true
	}
}

// unseen tells the samples of the pixels that are not seen; none, if all are,
// or are told otherwise.
func (p *parts) unseen() []int {
	if p.head.Color == named {
		return nil
	}
	l, e := filter.Samples(p.clear, 8*sampleSize, len(p.clear)/sampleSize)
	if e != api.OK {
		return nil
	}
	for i := range l {
		l[i] &= 1<<p.head.Depth - 1
	}
	return l
}

// alpha tells whether a pixel with such samples is seen.
func alpha(s, unseen []int) byte {
	if slices.Equal(s, unseen) {
		return 0
	}
	return opaque
}

// eight tells a sample by eight bits.
func eight(v, depth int) byte {
	switch depth {
	case 8:
		return byte(v)
	case 16:
		return byte(v >> 8)
	}
	return byte(pixel.Scale(v, 1<<depth-1, 255))
}
