package line_test

import (
	"math"
	"slices"
	"strings"
	"unicode/utf8"

	"phosphor/api"
	"phosphor/line"
)

// ink is the look of what the calls write; no cell of a line of these tests has it.
var ink = api.Attr{Fg: api.Direct + 0x123456, Bg: api.Palette + 200, Flags: api.Bold | api.Strike}

// look is one of its own for each place.
func look(i int) api.Attr {
	return api.Attr{Fg: api.Palette + i%256, Bg: api.Direct + i, Flags: i % 256}
}

// signs are all that of knows.
const signs = "x_HTt?-"

// of makes a line by its signs: x something written, _ a blank, H a Head, T a Tail, t a Tail with R, ? and - what has
// a Kind that is none. Each cell has a character and a look of its own; behind the line there is room with others.
func of(s string) line.Line {
	l := make(line.Line, len(s), len(s)+3)
	for i := range l[:cap(l)] {
		l[:cap(l)][i] = api.Cell{R: rune(0x4E00 + i), A: look(i)}
	}
	for i := range s {
		switch s[i] {
		case '_':
			l[i].R = 0
		case 'H':
			l[i].Kind = api.Head
		case 'T':
			l[i].Kind, l[i].R = api.Tail, 0
		case 't':
			l[i].Kind = api.Tail
		case '?':
			l[i].Kind = 3
		case '-':
			l[i].Kind = -1
		}
	}
	return l
}

// texts are all that may be made of these signs, up to so many.
func texts(signs string, most int) []string {
	out, last := []string{""}, []string{""}
	for range most {
		var next []string
		for _, s := range last {
			for _, c := range signs {
				next = append(next, s+string(c))
			}
		}
		out, last = append(out, next...), next
	}
	return out
}

// kinds is a line as letters, one a cell: N, H, T, and ? of none.
func kinds(l line.Line) string {
	b := make([]byte, len(l))
	for i, c := range l {
		b[i] = '?'
		if c.Kind >= 0 && c.Kind <= 2 {
			b[i] = "NHT"[c.Kind]
		}
	}
	return string(b)
}

// paired tells of each cell whether it is half of a wide character that is whole.
func paired(l line.Line) []bool {
	out := make([]bool, len(l))
	k := kinds(l)
	for from := 0; ; {
		i := strings.Index(k[from:], "HT")
		if i < 0 {
			return out
		}
		out[from+i], out[from+i+1] = true, true
		from += i + 2
	}
}

// plainRight does P1301's Right.
func plainRight(l line.Line) bool {
	whole := paired(l)
	for i, c := range l {
		switch c.Kind {
		case 0:
		case 1:
			if !whole[i] {
				return false
			}
		case 2:
			if !whole[i] || c.R != 0 {
				return false
			}
		default:
			return false
		}
	}
	return true
}

// plainMend does P1301's Mend, rule by rule.
func plainMend(l line.Line) line.Line {
	out := slices.Clone(l)
	whole := paired(l)
	for i := range out {
		if k := l[i].Kind; (k == 1 || k == 2) && !whole[i] {
			out[i].R, out[i].Kind = 0, 0
		}
	}
	for i := range out {
		if k := out[i].Kind; k < 0 || k > 2 {
			out[i].Kind = 0
		}
		if out[i].Kind == 2 {
			out[i].R = 0
		}
	}
	return out
}

// blanks are so many.
func blanks(n int, a api.Attr) line.Line {
	var l line.Line
	for range n {
		l = append(l, api.Cell{A: a})
	}
	return l
}

// lay lays cells over those from a place on, as Put and Erase tell it: of each wide character of which one half is
// covered, the other one is a blank.
func lay(l line.Line, from int, cells line.Line) line.Line {
	out := plainMend(l)
	covered := func(i int) bool { return i >= from && i < from+len(cells) }
	for i := range out {
		if out[i].Kind != 1 {
			continue
		}
		if covered(i) && !covered(i+1) {
			out[i+1] = api.Cell{A: out[i+1].A}
		}
		if !covered(i) && covered(i+1) {
			out[i] = api.Cell{A: out[i].A}
		}
	}
	copy(out[from:], cells)
	return out
}

// plainPut does P1302's Put.
func plainPut(l line.Line, col int, r rune, width int, a api.Attr) (line.Line, bool) {
	for at := range l {
		switch {
		case at != col:
		case width == 1:
			return lay(l, at, line.Line{{R: r, A: a}}), true
		case width == 2 && at+1 < len(l):
			return lay(l, at, line.Line{{R: r, Kind: 1, A: a}, {Kind: 2, A: a}}), true
		}
	}
	return plainMend(l), false
}

// plainInsert does P1302's Insert, one blank after the other.
func plainInsert(l line.Line, col, n int, a api.Attr) line.Line {
	m := plainMend(l)
	if n < 1 || col < 0 || col >= len(m) {
		return m
	}
	cells := slices.Clone(m)
	for i := 0; i < n && i < len(m); i++ {
		cells = slices.Insert(cells, col, api.Cell{A: a})
	}
	return plainMend(cells[:len(m)])
}

// plainDelete does P1302's Delete, one cell after the other.
func plainDelete(l line.Line, col, n int, a api.Attr) line.Line {
	cells := plainMend(l)
	if col < 0 {
		return cells
	}
	for i := 0; i < n && i < len(l) && col < len(l); i++ {
		cells = append(slices.Delete(cells, col, col+1), api.Cell{A: a})
	}
	return plainMend(cells)
}

// plainErase does P1302's Erase.
func plainErase(l line.Line, from, to int, a api.Attr) line.Line {
	first, n := 0, 0
	for i := range l {
		if i >= from && i < to {
			if n == 0 {
				first = i
			}
			n++
		}
	}
	return lay(l, first, blanks(n, a))
}

// plainResize does P1302's Resize.
func plainResize(l line.Line, cols int) line.Line {
	if cols < 0 {
		cols = 0
	}
	if cols > 1000 {
		cols = 1000
	}
	return plainMend(append(plainMend(l), blanks(cols, api.Attr{})...)[:cols])
}

// plainText does P1302's Text.
func plainText(l line.Line) string {
	s := ""
	for _, c := range plainMend(l) {
		switch {
		case c.Kind == 2:
		case c.R == 0:
			s += " "
		case !utf8.ValidRune(c.R):
			s += "\xEF\xBF\xBD"
		default:
			s += string(c.R)
		}
	}
	for strings.HasSuffix(s, " ") {
		s = s[:len(s)-1]
	}
	return s
}

// far are numbers far from any line.
var far = []int{
	math.MinInt, math.MinInt + 1, math.MinInt32, -1 << 20, -1001, -1000,
	1000, 1001, 1 << 20, math.MaxInt32, 1 << 32, 1<<32 + 1, math.MaxInt - 2, math.MaxInt - 1, math.MaxInt,
}

// around are all numbers about so many cells, and far ones.
func around(n int) []int {
	out := slices.Clone(far)
	for i := -2; i <= n+2; i++ {
		out = append(out, i)
	}
	return out
}

// numbers is a short rule for numbers that look like any.
type numbers uint64

func (s *numbers) below(n int) int {
	*s = *s*6364136223846793005 + 1442695040888963407
	return int(uint32(*s>>32) % uint32(n))
}

// line is of any cells; of most of them those that stand together do.
func (s *numbers) line(n int) line.Line {
	b := make([]byte, 0, n+1)
	for len(b) < n {
		switch s.below(4) {
		case 0:
			b = append(b, signs[s.below(len(signs))])
		case 1:
			b = append(b, "x_"[s.below(2)])
		default:
			b = append(b, "HT"...)
		}
	}
	return of(string(b[:n]))
}
