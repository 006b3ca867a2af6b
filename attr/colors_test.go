package attr_test

import (
	"math"
	"testing"

	"phosphor/api"
	"phosphor/attr"
)

func TestP1204Basic(t *testing.T) {
	l := palette()
	if len(l) != 256 {
		t.Fatalf("the model has %d colours", len(l))
	}
	for n := -1000; n <= 1000; n++ {
		var want [3]byte
		if n >= 0 && n < 256 {
			want = l[n]
		}
		if c := attr.Basic(n); c != want {
			t.Errorf("Basic(%d): %x; want %x", n, c, want)
		}
	}
}

func TestP1204BasicExamples(t *testing.T) {
	for n, want := range map[int][3]byte{
		math.MinInt: {}, -1: {}, 0: {}, 1: {0xCD, 0, 0}, 4: {0, 0, 0xEE}, 7: {0xE5, 0xE5, 0xE5}, 8: {0x7F, 0x7F, 0x7F},
		12: {0x5C, 0x5C, 0xFF}, 15: {255, 255, 255}, 16: {}, 17: {0, 0, 0x5F}, 22: {0, 0x5F, 0}, 52: {0x5F, 0, 0},
		110: {0x87, 0xAF, 0xD7}, 231: {255, 255, 255}, 232: {8, 8, 8}, 233: {18, 18, 18}, 255: {238, 238, 238},
		256: {}, 257: {}, 1 << 24: {}, 1<<32 + 1: {}, math.MaxInt: {},
	} {
		if c := attr.Basic(n); c != want {
			t.Errorf("Basic(%d): %x; want %x", n, c, want)
		}
	}
}

func TestP1204Color(t *testing.T) {
	for _, h := range hues() {
		for _, fore := range []bool{false, true} {
			if c := attr.Color(h.word(), fore); c != h.seen(fore) {
				t.Errorf("Color(%x, %v): %x; want %x", h.word(), fore, c, h.seen(fore))
			}
		}
	}
	for n := range 256 {
		if attr.Color(api.Palette+n, true) != palette()[n] || attr.Color(api.Palette+n, false) != palette()[n] {
			t.Errorf("Color of %d of the palette: %x", n, attr.Color(api.Palette+n, true))
		}
	}
	for n := 0; n < 1<<24; n += 127 {
		want := [3]byte{byte(n / 65536), byte(n / 256 % 256), byte(n % 256)}
		if attr.Color(api.Direct+n, true) != want || attr.Color(api.Direct+n, false) != want {
			t.Fatalf("Color of Direct and %x: %x", n, attr.Color(api.Direct+n, true))
		}
	}
}

func TestP1204ColorOfNone(t *testing.T) {
	for _, n := range none {
		if attr.Color(n, true) != [3]byte{} || attr.Color(n, false) != [3]byte{} {
			t.Errorf("Color(%d): %x, %x", n, attr.Color(n, true), attr.Color(n, false))
		}
	}
}

// plainColors does P1204's Colors, step by step.
func plainColors(l looks) (fore, back [3]byte) {
	fore, back = l.fore.seen(true), l.back.seen(false)
	if l.faint {
		for i := range fore {
			fore[i] = (fore[i] - fore[i]%2) / 2
		}
	}
	if l.inverse {
		fore, back = back, fore
	}
	if l.hidden {
		fore = back
	}
	return fore, back
}

func TestP1204Colors(t *testing.T) {
	for _, fore := range hues() {
		for _, back := range hues() {
			for flags := range 256 {
				l := flagged(flags, fore, back)
				f, b := attr.Colors(l.attr())
				if wantF, wantB := plainColors(l); f != wantF || b != wantB {
					t.Fatalf("Colors(%v): %x, %x; want %x, %x", l.attr(), f, b, wantF, wantB)
				}
			}
		}
	}
}

func TestP1204ColorsExamples(t *testing.T) {
	a := api.Attr{Fg: api.Direct + 0xFF0301, Bg: api.Direct + 0x0B0C0D}
	back := [3]byte{11, 12, 13}
	for _, c := range []struct {
		flags      int
		fore, back [3]byte
	}{
		{0, [3]byte{255, 3, 1}, back},
		{api.Bold | api.Italic | api.Underline | api.Blink | api.Strike, [3]byte{255, 3, 1}, back},
		{api.Faint, [3]byte{127, 1, 0}, back},
		{api.Inverse, back, [3]byte{255, 3, 1}},
		{api.Faint | api.Inverse, back, [3]byte{127, 1, 0}}, // the one of Fg is halved, wherever it is shown
		{api.Hidden, back, back},
		{api.Hidden | api.Faint, back, back},
		{api.Hidden | api.Inverse, [3]byte{255, 3, 1}, [3]byte{255, 3, 1}},
		{api.Hidden | api.Inverse | api.Faint, [3]byte{127, 1, 0}, [3]byte{127, 1, 0}},
	} {
		a.Flags = c.flags
		if f, b := attr.Colors(a); f != c.fore || b != c.back {
			t.Errorf("Colors(%v): %v, %v; want %v, %v", a, f, b, c.fore, c.back)
		}
	}
	f, b := attr.Colors(api.Attr{Flags: api.Faint})
	if f != [3]byte{0x72, 0x72, 0x72} || b != [3]byte{} {
		t.Errorf("Faint by default: %x, %x", f, b)
	}
	f, b = attr.Colors(api.Attr{Flags: api.Inverse})
	if f != [3]byte{} || b != [3]byte{0xE5, 0xE5, 0xE5} {
		t.Errorf("Inverse by default: %x, %x", f, b)
	}
}

// P8: what is not Right ends, and nothing more.
func TestP1204ColorsOfWhatIsNotRight(t *testing.T) {
	for _, n := range none {
		attr.Colors(api.Attr{Fg: n, Bg: n, Flags: n})
	}
}
