package attr

import "phosphor/api"

const colorBits = 1<<24 - 1

// basic are the colours of the palette that follow no rule.
var basic = [16][3]byte{
	{0x00, 0x00, 0x00}, {0xCD, 0x00, 0x00}, {0x00, 0xCD, 0x00}, {0xCD, 0xCD, 0x00},
	{0x00, 0x00, 0xEE}, {0xCD, 0x00, 0xCD}, {0x00, 0xCD, 0xCD}, {0xE5, 0xE5, 0xE5},
	{0x7F, 0x7F, 0x7F}, {0xFF, 0x00, 0x00}, {0x00, 0xFF, 0x00}, {0xFF, 0xFF, 0x00},
	{0x5C, 0x5C, 0xFF}, {0xFF, 0x00, 0xFF}, {0x00, 0xFF, 0xFF}, {0xFF, 0xFF, 0xFF},
}

// levels are the six of red, green and blue in the palette's cube.
var levels = [6]byte{0x00, 0x5F, 0x87, 0xAF, 0xD7, 0xFF}

// Where in the palette the bright colours begin, the cube and the grays.
const (
	bright = 8
	cube   = 16
	grays  = 232
)

// Basic tells a colour of the palette.
func Basic(n int) [3]byte {
	switch {
	case !isByte(n):
		return [3]byte{}
	case n < cube:
		return basic[n]
	case n < grays:
		n -= cube
		return [3]byte{levels[n/36], levels[n/6%6], levels[n%6]}
	}
	gray := byte(8 + 10*(n-grays))
	return [3]byte{gray, gray, gray}
}

// Color tells what a colour looks like, as one of the writing (fore) or of what is behind it.
func Color(c int, fore bool) [3]byte {
	kind, rgb := split(c)
	switch {
	case !isColor(c):
		return [3]byte{}
	case kind == api.Direct:
		return rgb
	case kind == api.Palette:
		return Basic(int(rgb[2]))
	case fore:
		return [3]byte{0xE5, 0xE5, 0xE5}
	}
	return [3]byte{}
}

// Colors tells what a cell with a looks like.
func Colors(a api.Attr) (fore, back [3]byte) {
	fore, back = Color(a.Fg, true), Color(a.Bg, false)
	if a.Flags&api.Faint != 0 {
		fore = [3]byte{fore[0] / 2, fore[1] / 2, fore[2] / 2}
	}
	if a.Flags&api.Inverse != 0 {
		fore, back = back, fore
	}
	if a.Flags&api.Hidden != 0 {
		fore = back
	}
	return fore, back
}

// isColor tells whether c is a colour.
func isColor(c int) bool {
	kind, rgb := split(c)
	switch kind {
	case api.Default:
		return rgb == [3]byte{}
	case api.Palette:
		return rgb == [3]byte{2: rgb[2]}
	case api.Direct:
		return true
	}
	return false
}

// split tells what kind of colour c would be, and the 24 bits behind that.
func split(c int) (kind int, rgb [3]byte) {
	return c &^ colorBits, [3]byte{byte(c >> 16), byte(c >> 8), byte(c)}
}
