package utf

import "unicode/utf8"

// span is characters from one to another, both of them in it.
type span struct{ from, to rune }

// Width tells how many cells a character takes.
func Width(r rune) int {
	none := [...]span{
		{0, 0x1F}, {0x7F, 0x9F}, {0x300, 0x36F}, {0x200B, 0x200F}, {0xFE00, 0xFE0F},
	}
	wide := [...]span{
		{0x1100, 0x115F}, {0x2E80, 0xA4CF}, {0xAC00, 0xD7A3}, {0xF900, 0xFAFF}, {0xFE30, 0xFE6F},
		{0xFF00, 0xFF60}, {0xFFE0, 0xFFE6}, {0x1F300, 0x1FAFF}, {0x20000, 0x3FFFD},
	}
	switch {
	case !utf8.ValidRune(r), within(none[:], r):
		return 0
	case within(wide[:], r):
		return 2
	}
	return 1
}

// within tells whether a character is of one of the spans.
func within(l []span, r rune) bool {
	for _, s := range l {
		if s.from <= r && r <= s.to {
			return true
		}
	}
	return false
}

// Graphic tells the character of a byte in a set: lines and signs in set '0', the byte itself in others.
func Graphic(set byte, b byte) rune {
	const first = 0x5F
	signs := [...]rune{
		0x00A0, 0x25C6, 0x2592, 0x2409, 0x240C, 0x240D, 0x240A, 0x00B0,
		0x00B1, 0x2424, 0x240B, 0x2518, 0x2510, 0x250C, 0x2514, 0x253C,
		0x23BA, 0x23BB, 0x2500, 0x23BC, 0x23BD, 0x251C, 0x2524, 0x2534,
		0x252C, 0x2502, 0x2264, 0x2265, 0x03C0, 0x2260, 0x00A3, 0x00B7,
	}
	i := int(b) - first
	if set != '0' || i < 0 || i >= len(signs) {
		return rune(b)
	}
	return signs[i]
}
