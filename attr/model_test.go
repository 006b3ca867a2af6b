package attr_test

import (
	"math"

	"phosphor/api"
)

// looks is an attribute as P1202's words have it: no bits, colours as themselves.
type looks struct {
	bold, faint, italic, underline, blink, inverse, hidden, strike bool
	fore, back                                                     hue
}

// hue is a colour: of a kind, with its numbers, Palette's n, Direct's r, g, b.
type hue struct {
	kind    byte // 0, 'p', 'd'
	n       int
	r, g, b int
}

// word is a hue as api has it.
func (h hue) word() int {
	switch h.kind {
	case 'p':
		return 1<<24 + h.n
	case 'd':
		return 1<<25 + h.r*65536 + h.g*256 + h.b
	}
	return 0
}

// attr is all of it as api has it.
func (l looks) attr() api.Attr {
	a := api.Attr{Fg: l.fore.word(), Bg: l.back.word()}
	for i, on := range []bool{l.bold, l.faint, l.italic, l.underline, l.blink, l.inverse, l.hidden, l.strike} {
		if on {
			a.Flags += int(math.Pow(2, float64(i)))
		}
	}
	return a
}

// plain does params as P1202 tells them, row by row.
func plain(l looks, params []int) looks {
	if len(params) == 0 {
		params = []int{0}
	}
	for i := 0; i < len(params); i++ {
		switch n := params[i]; n {
		case 38, 48:
			h, ok, used := behind(params[i+1:])
			if ok && n == 38 {
				l.fore = h
			} else if ok {
				l.back = h
			}
			i += used
		default:
			l = simple(l, n)
		}
	}
	return l
}

// behind tells the hue that params name, whether they do, and how many are used up.
func behind(params []int) (hue, bool, int) {
	within := func(l []int) bool {
		for _, n := range l {
			if n < 0 || n > 255 {
				return false
			}
		}
		return true
	}
	if len(params) >= 2 && params[0] == 5 {
		return hue{kind: 'p', n: params[1]}, within(params[1:2]), 2
	}
	if len(params) >= 4 && params[0] == 2 {
		return hue{kind: 'd', r: params[1], g: params[2], b: params[3]}, within(params[1:4]), 4
	}
	return hue{}, false, len(params)
}

// simple does a param that has nothing behind it.
func simple(l looks, n int) looks {
	flags := map[int]*bool{
		1: &l.bold, 2: &l.faint, 3: &l.italic, 4: &l.underline, 5: &l.blink, 7: &l.inverse, 8: &l.hidden, 9: &l.strike,
	}
	if f := flags[n]; f != nil {
		*f = true
	}
	back := map[int][]*bool{
		22: {&l.bold, &l.faint}, 23: {&l.italic}, 24: {&l.underline}, 25: {&l.blink}, 27: {&l.inverse}, 28: {&l.hidden}, 29: {&l.strike},
	}
	for _, f := range back[n] {
		*f = false
	}
	for i := range 8 {
		switch n {
		case 30 + i:
			l.fore = hue{kind: 'p', n: i}
		case 40 + i:
			l.back = hue{kind: 'p', n: i}
		case 90 + i:
			l.fore = hue{kind: 'p', n: 8 + i}
		case 100 + i:
			l.back = hue{kind: 'p', n: 8 + i}
		}
	}
	switch n {
	case 0:
		return looks{}
	case 39:
		l.fore = hue{}
	case 49:
		l.back = hue{}
	}
	return l
}

// flagged is looks with those flags, bit by bit.
func flagged(flags int, fore, back hue) looks {
	l := looks{fore: fore, back: back}
	for i, f := range []*bool{&l.bold, &l.faint, &l.italic, &l.underline, &l.blink, &l.inverse, &l.hidden, &l.strike} {
		*f = flags>>i&1 == 1
	}
	return l
}

// palette is all 256 colours, in P1204's order: by a text, three loops and one.
func palette() [][3]byte {
	const named = "000000 CD0000 00CD00 CDCD00 0000EE CD00CD 00CDCD E5E5E5 7F7F7F FF0000 00FF00 FFFF00 5C5CFF FF00FF 00FFFF FFFFFF "
	digit := func(b byte) byte {
		if b >= 'A' {
			return b - 'A' + 10
		}
		return b - '0'
	}
	var l [][3]byte
	for i := 0; i < len(named); i += 7 {
		var c [3]byte
		for j := range c {
			c[j] = digit(named[i+2*j])*16 + digit(named[i+2*j+1])
		}
		l = append(l, c)
	}
	shades := []byte{0, 0x5F, 0x87, 0xAF, 0xD7, 0xFF}
	for _, r := range shades {
		for _, g := range shades {
			for _, b := range shades {
				l = append(l, [3]byte{r, g, b})
			}
		}
	}
	for gray := byte(8); gray <= 238; gray += 10 {
		l = append(l, [3]byte{gray, gray, gray})
	}
	return l
}

// seen is what a hue looks like.
func (h hue) seen(fore bool) [3]byte {
	switch {
	case h.kind == 'p':
		return palette()[h.n]
	case h.kind == 'd':
		return [3]byte{byte(h.r), byte(h.g), byte(h.b)}
	case fore:
		return [3]byte{229, 229, 229}
	}
	return [3]byte{0, 0, 0}
}

// hues are at the edges of their kinds, and some within.
func hues() []hue {
	l := []hue{{}}
	for _, n := range []int{0, 1, 7, 8, 9, 15, 16, 17, 100, 231, 232, 254, 255} {
		l = append(l, hue{kind: 'p', n: n})
	}
	for _, c := range [][3]int{{0, 0, 0}, {0, 0, 1}, {0, 0, 255}, {0, 1, 0}, {1, 0, 0}, {255, 0, 0}, {10, 11, 12}, {127, 128, 129}, {255, 255, 254}, {255, 255, 255}} {
		l = append(l, hue{kind: 'd', r: c[0], g: c[1], b: c[2]})
	}
	return l
}

// numbers is a short rule for numbers that look like any.
type numbers uint64

func (s *numbers) below(n int) int {
	*s = *s*6364136223846793005 + 1442695040888963407
	return int(uint32(*s>>32) % uint32(n))
}

// params are mostly such as mean something, with spare room behind them.
func (s *numbers) params(n int) []int {
	known := []int{0, 1, 2, 3, 4, 5, 7, 8, 9, 22, 23, 24, 25, 27, 28, 29, 38, 38, 38, 39, 48, 48, 48, 49, 255, 256, -1, 65535}
	l := make([]int, n+3)
	for i := range l {
		switch s.below(4) {
		case 0:
			l[i] = s.below(110)
		case 1:
			l[i] = []int{2, 5}[s.below(2)]
		default:
			l[i] = known[s.below(len(known))]
		}
	}
	return l[:n]
}
