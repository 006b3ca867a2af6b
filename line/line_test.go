package line_test

import (
	"math"
	"slices"
	"strings"
	"testing"

	"phosphor/api"
	"phosphor/line"
)

// samples are lines of all sorts: all short ones, longer ones that are Right, and any.
func samples() []line.Line {
	var out []line.Line
	for _, s := range texts(signs, 3) {
		out = append(out, of(s))
	}
	for _, s := range texts("xHT", 5) {
		out = append(out, of(s))
	}
	for _, s := range []string{"HTHTHT", "xHTHTx", "HTxHTHTx", "HHTT", "HTTHHT", "_HT_HT_"} {
		out = append(out, of(s))
	}
	s := numbers(13)
	for i := range 30 {
		out = append(out, s.line(6+i))
	}
	return out
}

// same holds what a call answered against what the model says, cell by cell.
func same(t *testing.T, call string, l, got, want line.Line) {
	t.Helper()
	if !slices.Equal(got, want) {
		t.Fatalf("%s of %s %v:\n%s %v; want\n%s %v", call, kinds(l), l, kinds(got), got, kinds(want), want)
	}
}

// still holds a line and its spare room against what they were.
func still(t *testing.T, call string, l, kept line.Line) {
	t.Helper()
	if !slices.Equal(l[:cap(l)], kept) {
		t.Fatalf("P2: %s changes what it was handed: %v; it was %v", call, l[:cap(l)], kept)
	}
}

// whole is a copy of a line with its spare room.
func whole(l line.Line) line.Line { return slices.Clone(l[:cap(l)]) }

func TestP1301New(t *testing.T) {
	for _, cols := range append(around(5), 998, 999) {
		for _, a := range []api.Attr{{}, ink, {Flags: -1}, {Fg: math.MaxInt, Bg: math.MinInt}} {
			want := line.Line(nil)
			if cols >= 0 && cols <= 1000 {
				want = blanks(cols, a)
			}
			same(t, "P1301: New", nil, line.New(cols, a), want)
		}
	}
	one, other := line.New(3, ink), line.New(3, ink)
	for i := range one[:cap(one)] {
		one[:cap(one)][i].R = 'x'
	}
	same(t, "P2: New", nil, other, blanks(3, ink))
	same(t, "P2: New", nil, line.New(3, ink), blanks(3, ink))
}

func TestP1301Right(t *testing.T) {
	for _, s := range texts(signs, 6) {
		l := of(s)
		if l.Right() != plainRight(l) {
			t.Fatalf("P1301: Right of %s: %v", s, l.Right())
		}
	}
	for s, want := range map[string]bool{
		"": true, "x": true, "_": true, "HT": true, "xHT_HT": true, "HTHT": true,
		"H": false, "T": false, "TH": false, "HHT": false, "HTT": false, "HxT": false, "Ht": false, "x?": false, "-": false, "xH": false, "Tx": false,
	} {
		if of(s).Right() != want {
			t.Errorf("P1301: Right of %q: not %v", s, want)
		}
	}
	for _, k := range []int{math.MinInt, -1, 3, 256, 257, 1 << 32, 1<<32 + 1, math.MaxInt} {
		if (line.Line{{R: 'x', Kind: k}}).Right() {
			t.Errorf("P1301: %d is no Kind", k)
		}
	}
	// What is written in a Head, or in what is Narrow, and what looks it has, bear not on it.
	l := line.Line{{Kind: api.Head, R: -1, A: api.Attr{Fg: -1}}, {Kind: api.Tail, A: ink}, {R: math.MaxInt32}, {Kind: api.Head}, {Kind: api.Tail}}
	if !l.Right() {
		t.Errorf("P1301: %v is Right", l)
	}
}

func TestP1301Mend(t *testing.T) {
	for _, s := range texts(signs, 6) {
		l := of(s)
		kept := whole(l)
		m := l.Mend()
		same(t, "P1301: Mend", l, m, plainMend(l))
		still(t, "Mend", l, kept)
		if !m.Right() || !slices.Equal(m.Mend(), m) {
			t.Fatalf("P1301: Mend of %s is not Right", s)
		}
	}
}

func TestP1301MendExamples(t *testing.T) {
	for _, k := range []int{math.MinInt, -1, 3, 256, 257, 1 << 32, 1<<32 + 1, math.MaxInt} {
		got := line.Line{{R: 'x', Kind: k, A: ink}, {Kind: api.Tail, R: 'y', A: look(1)}}.Mend()
		same(t, "P1301: Mend", nil, got, line.Line{{R: 'x', A: ink}, {A: look(1)}})
	}
	for s, want := range map[string]string{
		"H": "_", "T": "_", "t": "_", "?": "x", "-": "x", "Ht": "HT", "TH": "__", "HH": "__", "TT": "__", "HHT": "_HT", "HTT": "HT_",
		"HHTT": "_HT_", "HxT": "_x_", "H?T": "_x_", "?HT-": "xHTx", "HTHT": "HTHT", "THTH": "_HT_", "": "",
	} {
		same(t, "P1301: Mend", of(s), of(s).Mend(), of(want))
	}
}

func TestP1302Put(t *testing.T) {
	for _, l := range samples() {
		kept := whole(l)
		for _, col := range around(len(l)) {
			for _, width := range []int{1, 2, 0, -1, 3, 4, math.MinInt, math.MaxInt} {
				got, ok := l.Put(col, 'W', width, ink)
				want, done := plainPut(l, col, 'W', width, ink)
				same(t, "P1302: Put", l, got, want)
				if ok != done || !got.Right() {
					t.Fatalf("P1302: Put(%d, %d) of %s: %v; want %v", col, width, kinds(l), ok, done)
				}
			}
		}
		still(t, "Put", l, kept)
	}
}

func TestP1302PutExamples(t *testing.T) {
	l := of("xHTHT")
	put := func(col, width int, want line.Line) {
		t.Helper()
		got, ok := l.Put(col, 'W', width, ink)
		same(t, "P1302: Put", l, got, want)
		if !ok {
			t.Errorf("P1302: Put(%d, %d): false", col, width)
		}
	}
	w, head, tail := api.Cell{R: 'W', A: ink}, api.Cell{R: 'W', Kind: api.Head, A: ink}, api.Cell{Kind: api.Tail, A: ink}
	gone := func(i int) api.Cell { return api.Cell{A: look(i)} }
	put(0, 1, line.Line{w, l[1], l[2], l[3], l[4]})
	put(0, 2, line.Line{head, tail, gone(2), l[3], l[4]})
	put(1, 1, line.Line{l[0], w, gone(2), l[3], l[4]})
	put(1, 2, line.Line{l[0], head, tail, l[3], l[4]})
	put(2, 1, line.Line{l[0], gone(1), w, l[3], l[4]})
	put(2, 2, line.Line{l[0], gone(1), head, tail, gone(4)})
	put(4, 1, line.Line{l[0], l[1], l[2], gone(3), w})
	for _, c := range [][2]int{{4, 2}, {5, 1}, {5, 2}, {-1, 1}, {-1, 2}, {0, 0}, {0, 3}, {0, -1}, {math.MaxInt, 1}, {math.MaxInt, 2}, {math.MinInt, 1}} {
		got, ok := l.Put(c[0], 'W', c[1], ink)
		same(t, "P1302: Put", l, got, l)
		if ok {
			t.Errorf("P1302: Put(%d, %d): true", c[0], c[1])
		}
	}
	for _, r := range []rune{0, -1, ' ', 0xD800, 0x110000, math.MinInt32, math.MaxInt32} { // whatever it is, it stands there
		one, ok := l.Put(0, r, 1, ink)
		two, both := l.Put(3, r, 2, ink)
		if !ok || !both || one[0] != (api.Cell{R: r, A: ink}) || two[3] != (api.Cell{R: r, Kind: api.Head, A: ink}) || two[4] != tail {
			t.Errorf("P1302: Put of %x: %v, %v", r, one, two)
		}
	}
}

func TestP1302InsertAndDelete(t *testing.T) {
	for _, l := range samples() {
		kept := whole(l)
		for _, col := range around(len(l)) {
			for _, n := range around(len(l)) {
				in, out := l.Insert(col, n, ink), l.Delete(col, n, ink)
				same(t, "P1302: Insert", l, in, plainInsert(l, col, n, ink))
				same(t, "P1302: Delete", l, out, plainDelete(l, col, n, ink))
				if !in.Right() || !out.Right() {
					t.Fatalf("P1302: of %s at %d by %d: not Right", kinds(l), col, n)
				}
			}
		}
		still(t, "Insert, Delete", l, kept)
	}
}

func TestP1302InsertAndDeleteExamples(t *testing.T) {
	l, b := of("xHTHT"), api.Cell{A: ink}
	gone := func(i int) api.Cell { return api.Cell{A: look(i)} }
	same(t, "P1302: Insert", l, l.Insert(1, 1, ink), line.Line{l[0], b, l[1], l[2], gone(3)})
	same(t, "P1302: Insert", l, l.Insert(2, 1, ink), line.Line{l[0], gone(1), b, gone(2), gone(3)})
	same(t, "P1302: Insert", l, l.Insert(0, 2, ink), line.Line{b, b, l[0], l[1], l[2]})
	same(t, "P1302: Insert", l, l.Insert(3, 2, ink), line.Line{l[0], l[1], l[2], b, b})
	same(t, "P1302: Insert", l, l.Insert(4, 1, ink), line.Line{l[0], l[1], l[2], gone(3), b})
	same(t, "P1302: Insert", l, l.Insert(0, math.MaxInt, ink), blanks(5, ink))
	same(t, "P1302: Delete", l, l.Delete(0, 1, ink), line.Line{l[1], l[2], l[3], l[4], b})
	same(t, "P1302: Delete", l, l.Delete(1, 1, ink), line.Line{l[0], gone(2), l[3], l[4], b})
	same(t, "P1302: Delete", l, l.Delete(2, 1, ink), line.Line{l[0], gone(1), l[3], l[4], b})
	same(t, "P1302: Delete", l, l.Delete(1, 2, ink), line.Line{l[0], l[3], l[4], b, b})
	same(t, "P1302: Delete", l, l.Delete(4, 1, ink), line.Line{l[0], l[1], l[2], gone(3), b})
	same(t, "P1302: Delete", l, l.Delete(0, math.MaxInt, ink), blanks(5, ink))
	// A Head behind which another one's Tail moves up has a Tail behind it.
	same(t, "P1302: Delete", l, l.Delete(2, 2, ink), line.Line{l[0], l[1], l[4], b, b})
	for _, c := range [][2]int{{0, 0}, {0, -1}, {0, math.MinInt}, {-1, 1}, {5, 1}, {6, 1}, {math.MinInt, math.MaxInt}, {math.MaxInt, math.MaxInt}} {
		same(t, "P1302: Insert", l, l.Insert(c[0], c[1], ink), l)
		same(t, "P1302: Delete", l, l.Delete(c[0], c[1], ink), l)
	}
	// Of what is not Right they work on Mend: the Tail that moves up had no Head.
	same(t, "P1302: Delete", nil, of("HxT").Delete(1, 1, ink), line.Line{gone(0), gone(2), b})
}

func TestP1302Erase(t *testing.T) {
	for _, l := range samples() {
		kept := whole(l)
		for _, from := range around(len(l)) {
			for _, to := range around(len(l)) {
				got := l.Erase(from, to, ink)
				same(t, "P1302: Erase", l, got, plainErase(l, from, to, ink))
				if !got.Right() {
					t.Fatalf("P1302: Erase(%d, %d) of %s: not Right", from, to, kinds(l))
				}
			}
		}
		still(t, "Erase", l, kept)
	}
}

func TestP1302EraseExamples(t *testing.T) {
	l, b := of("xHTHT"), api.Cell{A: ink}
	gone := func(i int) api.Cell { return api.Cell{A: look(i)} }
	same(t, "P1302: Erase", l, l.Erase(2, 4, ink), line.Line{l[0], gone(1), b, b, gone(4)})
	same(t, "P1302: Erase", l, l.Erase(-9, 1, ink), line.Line{b, l[1], l[2], l[3], l[4]})
	same(t, "P1302: Erase", l, l.Erase(4, 9, ink), line.Line{l[0], l[1], l[2], gone(3), b})
	same(t, "P1302: Erase", l, l.Erase(1, 3, ink), line.Line{l[0], b, b, l[3], l[4]})
	same(t, "P1302: Erase", l, l.Erase(math.MinInt, math.MaxInt, ink), blanks(5, ink))
	for _, c := range [][2]int{{2, 2}, {4, 2}, {5, 9}, {-9, 0}, {-9, -3}, {math.MaxInt, math.MinInt}, {math.MaxInt, math.MaxInt}} {
		same(t, "P1302: Erase", l, l.Erase(c[0], c[1], ink), l)
	}
}

func TestP1302Resize(t *testing.T) {
	for _, l := range samples() {
		kept := whole(l)
		for _, cols := range around(len(l)) {
			got := l.Resize(cols)
			same(t, "P1302: Resize", l, got, plainResize(l, cols))
			if !got.Right() {
				t.Fatalf("P1302: Resize(%d) of %s: not Right", cols, kinds(l))
			}
		}
		still(t, "Resize", l, kept)
	}
	l := of("xHT")
	same(t, "P1302: Resize", l, l.Resize(2), line.Line{l[0], {A: look(1)}})
	same(t, "P1302: Resize", l, l.Resize(5), line.Line{l[0], l[1], l[2], {}, {}})
	for cols, want := range map[int]int{math.MinInt: 0, -1: 0, 0: 0, 999: 999, 1000: 1000, 1001: 1000, math.MaxInt: 1000} {
		if n := len(l.Resize(cols)); n != want {
			t.Errorf("P1302: Resize(%d) has %d cells; want %d", cols, n, want)
		}
	}
}

// Lines longer than New's may be handed in: Resize alone cuts them.
func TestP1302LongLines(t *testing.T) {
	s := numbers(7)
	for _, n := range []int{998, 999, 1000, 1001, 1002, 2500} {
		l := s.line(n)
		kept := whole(l)
		for _, at := range []int{0, 1, 2, 497, 998, 999, 1000, 1001, n - 2, n - 1, n} {
			for _, width := range []int{1, 2} {
				got, ok := l.Put(at, 'W', width, ink)
				want, done := plainPut(l, at, 'W', width, ink)
				same(t, "P1302: Put", l, got, want)
				if ok != done {
					t.Errorf("P1302: Put(%d, %d) of %d cells: %v", at, width, n, ok)
				}
			}
			for _, m := range []int{1, 2, 501, n} {
				same(t, "P1302: Insert", l, l.Insert(at, m, ink), plainInsert(l, at, m, ink))
				same(t, "P1302: Delete", l, l.Delete(at, m, ink), plainDelete(l, at, m, ink))
				same(t, "P1302: Erase", l, l.Erase(at, at+m, ink), plainErase(l, at, at+m, ink))
			}
			same(t, "P1302: Resize", l, l.Resize(at), plainResize(l, at))
		}
		if l.Text() != plainText(l) || !line.Same(l, l.Mend()) {
			t.Errorf("P1302: Text, or Same, of %d cells", n)
		}
		still(t, "a call", l, kept)
	}
}

func TestP1302Text(t *testing.T) {
	for _, l := range samples() {
		kept := whole(l)
		if l.Text() != plainText(l) {
			t.Fatalf("P1302: Text of %s: %q; want %q", kinds(l), l.Text(), plainText(l))
		}
		still(t, "Text", l, kept)
	}
	signs := []rune{0, ' ', 'a', '\t', '\n', 0xA0, 0x3000, 0xD7FF, 0xD800, 0xDFFF, 0xE000, 0xFFFD, 0xFFFF, 0x10FFFF, 0x110000, -1, math.MinInt32, math.MaxInt32}
	for _, a := range signs {
		for _, b := range signs {
			for _, c := range signs {
				l := line.Line{{R: a, A: ink}, {R: b, Kind: api.Head}, {Kind: api.Tail}, {R: c}}
				if l.Text() != plainText(l) {
					t.Fatalf("P1302: Text of %x, %x, %x: %q; want %q", a, b, c, l.Text(), plainText(l))
				}
			}
		}
	}
}

func TestP1302TextExamples(t *testing.T) {
	written := func(l ...rune) line.Line {
		out := line.New(len(l), ink)
		for i, r := range l {
			out, _ = out.Put(i, r, 1, ink)
		}
		return out
	}
	for _, c := range []struct {
		l    line.Line
		want string
	}{
		{nil, ""}, {blanks(9, ink), ""}, {written(' ', ' '), ""}, {written('a', 0, ' '), "a"}, {written(0, 'a', 0, 0, 'b'), " a  b"}, {written(' ', 'a'), " a"},
		{written('a', 0xA0), "a\u00A0"}, {written('a', 0x3000, ' '), "a\u3000"}, {written('a', '\t'), "a\t"}, {written('a', '\n', 0), "a\n"},
		{written(-1, 0xD800, 0xDFFF, 0x110000, 'a'), strings.Repeat("\uFFFD", 4) + "a"}, {written(0x10FFFF, 0xE000, 0xFFFE), "\U0010FFFF\uE000\uFFFE"},
		{of("HTx_HT_"), "\u4E00\u4E02 \u4E04"}, {of("HxT"), " \u4E01"}, {of("?Ht"), "\u4E00\u4E01"}, {of("xH"), "\u4E00"},
		{line.Line{{Kind: api.Head}, {Kind: api.Tail}, {R: 'a'}}, " a"}, {line.Line{{R: 'a'}, {Kind: api.Head, R: ' '}, {Kind: api.Tail}}, "a"},
	} {
		if got := c.l.Text(); got != c.want {
			t.Errorf("P1302: Text of %v: %q; want %q", c.l, got, c.want)
		}
	}
}

func TestP1302Same(t *testing.T) {
	for _, a := range texts("xHTt?", 3) {
		for _, b := range texts("xHTt?", 3) {
			l, m := of(a), of(b)
			keptL, keptM := whole(l), whole(m)
			if want := slices.Equal(plainMend(l), plainMend(m)); line.Same(l, m) != want {
				t.Fatalf("P1302: Same(%s, %s): not %v", a, b, want)
			}
			still(t, "Same", l, keptL)
			still(t, "Same", m, keptM)
		}
	}
	l := of("xHT_x")
	if !line.Same(l, of("xHT_x")) || !line.Same(nil, line.Line{}) || line.Same(l, nil) || line.Same(nil, l) || line.Same(l, l[:4]) || line.Same(l[:4], l) {
		t.Error("P1302: Same")
	}
	for i := range l {
		for _, change := range []func(c *api.Cell){
			func(c *api.Cell) { c.A.Fg++ }, func(c *api.Cell) { c.A.Bg-- }, func(c *api.Cell) { c.A.Flags ^= 1 },
		} {
			m := whole(l)[:len(l)]
			change(&m[i])
			if line.Same(l, m) || line.Same(m, l) {
				t.Errorf("P1302: Same of %v and %v", l, m)
			}
		}
		m := whole(l)[:len(l)]
		m[i].R++
		if line.Same(l, m) != (l[i].Kind == api.Tail) { // what stands in a Tail is mended
			t.Errorf("P1302: Same of %v and %v", l, m)
		}
	}
}

func TestP1303Map(t *testing.T) {
	for _, l := range samples() {
		kept := whole(l)
		var told line.Line
		got := line.Map(l, func(c api.Cell) api.Cell {
			told = append(told, c)
			c.R++
			return c
		})
		want := whole(l)[:len(l)]
		for i := range want {
			want[i].R++
		}
		same(t, "P1303: Map", l, got, want)
		same(t, "P1303: Map", l, told, l) // each one once, in order
		still(t, "Map", l, kept)
	}
	l := of("xHT_")
	if got := line.Map(l, func(c api.Cell) string { return string(c.R) }); !slices.Equal(got, []string{"\u4E00", "\u4E01", "\x00", "\x00"}) {
		t.Errorf("P1303: %q", got)
	}
	if got := line.Map(l, func(c api.Cell) bool { return c.Kind == api.Narrow }); !slices.Equal(got, []bool{true, false, false, true}) {
		t.Errorf("P1303: %v", got)
	}
	if got := line.Map(l, func(c api.Cell) error { return nil }); len(got) != 4 || got[3] != nil {
		t.Errorf("P1303: %v", got)
	}
	calls := 0
	if got := line.Map(nil, func(c api.Cell) int { calls++; return 1 }); len(got) != 0 || calls != 0 {
		t.Errorf("P1303: of nothing: %v, %d calls", got, calls)
	}
}

// Each call answers new memory, where nothing is changed, too; and keeps none.
func TestP1302NewMemory(t *testing.T) {
	calls := map[string]func(l line.Line) line.Line{
		"Mend":      line.Line.Mend,
		"Put":       func(l line.Line) line.Line { m, _ := l.Put(1, 'W', 1, ink); return m },
		"Put not":   func(l line.Line) line.Line { m, _ := l.Put(-1, 'W', 1, ink); return m },
		"Insert":    func(l line.Line) line.Line { return l.Insert(1, 1, ink) },
		"no Insert": func(l line.Line) line.Line { return l.Insert(1, 0, ink) },
		"Delete":    func(l line.Line) line.Line { return l.Delete(1, 1, ink) },
		"no Delete": func(l line.Line) line.Line { return l.Delete(-1, 1, ink) },
		"Erase":     func(l line.Line) line.Line { return l.Erase(1, 2, ink) },
		"no Erase":  func(l line.Line) line.Line { return l.Erase(2, 1, ink) },
		"shorter":   func(l line.Line) line.Line { return l.Resize(len(l) - 1) },
		"as long":   func(l line.Line) line.Line { return l.Resize(len(l)) },
		"longer":    func(l line.Line) line.Line { return l.Resize(len(l) + 2) },
		"Map":       func(l line.Line) line.Line { return line.Map(l, func(c api.Cell) api.Cell { return c }) },
	}
	for name, call := range calls {
		for _, s := range []string{"xxxx", "HTHTx", "tH?xTH", "x"} {
			l := of(s)
			kept := whole(l)
			got := call(l)
			want := slices.Clone(got)
			for i := range got[:cap(got)] {
				got[:cap(got)][i] = api.Cell{R: 'Q', Kind: 7}
			}
			still(t, name, l, kept)
			got = call(l)
			clear(l[:cap(l)])
			same(t, "P2: "+name, l, got, want)
		}
	}
}

// Lines by many calls, each on what the one ahead answered.
func TestP1302ManyCalls(t *testing.T) {
	s := numbers(1302)
	for range 200 {
		l := line.New(1+s.below(20), look(1))
		want := slices.Clone(l)
		for i := range 100 {
			at, n, a := s.below(len(l)+3)-1, s.below(len(l)+3)-1, look(i)
			switch s.below(8) {
			case 0:
				l, want = l.Insert(at, n%4, a), plainInsert(want, at, n%4, a)
			case 1:
				l, want = l.Delete(at, n%4, a), plainDelete(want, at, n%4, a)
			case 2:
				l, want = l.Erase(at, at+n%4, a), plainErase(want, at, at+n%4, a)
			case 3:
				cols := 1 + s.below(25)
				l, want = l.Resize(cols), plainResize(want, cols)
			default:
				r, width := rune(0x4E00+i), 1+s.below(2)
				l, _ = l.Put(at, r, width, a)
				want, _ = plainPut(want, at, r, width, a)
			}
			same(t, "P1302: many calls", nil, l, want)
			if !l.Right() || l.Text() != plainText(want) {
				t.Fatalf("P1302: many calls: %v", l)
			}
		}
	}
}
