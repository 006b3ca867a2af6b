package attr_test

import (
	"math"
	"slices"
	"testing"

	"phosphor/api"
	"phosphor/attr"
)

// none are numbers that are no colours, at the edges of those that are and far from them.
var none = []int{
	math.MinInt, -1 << 32, -api.Direct, -api.Palette - 1, -api.Palette, -2, -1, 1, 2, 255, 256, 1<<24 - 1,
	api.Palette + 256, api.Palette + 257, api.Palette + 1<<16, api.Palette + 0x010001, api.Direct - 1,
	api.Direct + 1<<24, api.Direct + 1<<25, 1<<26 + 5, 1 << 32, 1<<32 + api.Palette, 1<<32 + api.Direct, math.MaxInt,
}

func TestP1201Right(t *testing.T) {
	for _, fore := range hues() {
		for _, back := range hues() {
			for flags := range 256 {
				if a := (api.Attr{Fg: fore.word(), Bg: back.word(), Flags: flags}); !attr.Right(a) {
					t.Fatalf("Right(%v): false", a)
				}
			}
		}
	}
}

func TestP1201EachColour(t *testing.T) {
	for n := range 256 {
		if !attr.Right(api.Attr{Fg: api.Palette + n}) || !attr.Right(api.Attr{Bg: api.Palette + n}) {
			t.Fatalf("%d of the palette is not Right", n)
		}
	}
	for n := 0; n < 1<<24; n += 251 {
		if !attr.Right(api.Attr{Fg: api.Direct + n}) || !attr.Right(api.Attr{Bg: api.Direct + n}) {
			t.Fatalf("Direct and %x is not Right", n)
		}
		if n > 0 && (attr.Right(api.Attr{Fg: n}) || attr.Right(api.Attr{Bg: n})) {
			t.Fatalf("%x is Right", n)
		}
		if n > 255 && (attr.Right(api.Attr{Fg: api.Palette + n}) || attr.Right(api.Attr{Bg: api.Palette + n})) {
			t.Fatalf("%x of the palette is Right", n)
		}
	}
}

func TestP1201WhatIsNotRight(t *testing.T) {
	for _, h := range hues() {
		c := h.word()
		for _, wrong := range none {
			if attr.Right(api.Attr{Fg: wrong, Bg: c}) || attr.Right(api.Attr{Fg: c, Bg: wrong, Flags: 255}) || attr.Right(api.Attr{Fg: wrong, Bg: wrong}) {
				t.Errorf("Right with %d and %d", wrong, c)
			}
		}
		for _, flags := range []int{math.MinInt, -256, -255, -1, 256, 257, 511, 1 << 16, 1 << 32, math.MaxInt} {
			if a := (api.Attr{Fg: c, Bg: c, Flags: flags}); attr.Right(a) {
				t.Errorf("Right(%v)", a)
			}
		}
	}
}

// starts are attributes to which params are applied.
func starts() []looks {
	red, direct := hue{kind: 'p', n: 1}, hue{kind: 'd', r: 1, g: 2, b: 3}
	return []looks{flagged(0, hue{}, hue{}), flagged(255, red, direct), flagged(0x55, direct, red), flagged(0xAA, hue{}, red)}
}

// same fails unless Apply does what the plain model does, from each of the starts on.
func same(t *testing.T, params []int) {
	t.Helper()
	for _, l := range starts() {
		if a, want := attr.Apply(l.attr(), params), plain(l, params).attr(); a != want {
			t.Fatalf("Apply(%v, %v): %v; want %v", l.attr(), params, a, want)
		}
	}
}

func TestP1202Examples(t *testing.T) {
	red := api.Palette + 1
	full := api.Attr{Fg: red, Bg: api.Direct + 7, Flags: 255}
	for _, c := range []struct {
		a      api.Attr
		params []int
		want   api.Attr
	}{
		{full, nil, api.Attr{}},
		{full, []int{}, api.Attr{}},
		{full, []int{0}, api.Attr{}},
		{full, []int{0, 31}, api.Attr{Fg: red}},
		{api.Attr{}, []int{1, 2, 3, 4, 5, 7, 8, 9}, api.Attr{Flags: 255}},
		{full, []int{22}, api.Attr{Fg: red, Bg: api.Direct + 7, Flags: 252}},
		{full, []int{21, 26, 6, 20, 10}, full},
		{full, []int{23, 24, 25, 27, 28, 29}, api.Attr{Fg: red, Bg: api.Direct + 7, Flags: 3}},
		{api.Attr{}, []int{30, 47}, api.Attr{Fg: api.Palette, Bg: api.Palette + 7}},
		{api.Attr{}, []int{97, 100}, api.Attr{Fg: api.Palette + 15, Bg: api.Palette + 8}},
		{full, []int{39, 49}, api.Attr{Flags: 255}},
		{full, []int{89, 98, 99, 108, 50, 37, 36}, api.Attr{Fg: api.Palette + 6, Bg: api.Direct + 7, Flags: 255}},
		{api.Attr{}, []int{38, 5, 255, 48, 5, 0, 1}, api.Attr{Fg: api.Palette + 255, Bg: api.Palette, Flags: api.Bold}},
		{api.Attr{}, []int{38, 2, 255, 0, 1, 48, 2, 0, 255, 2, 4}, api.Attr{Fg: api.Direct + 0xFF0001, Bg: api.Direct + 0xFF02, Flags: api.Underline}},
	} {
		if a := attr.Apply(c.a, c.params); a != c.want {
			t.Errorf("Apply(%v, %v): %v; want %v", c.a, c.params, a, c.want)
		}
	}
}

func TestP1202NumbersThatMayNotBe(t *testing.T) {
	a := api.Attr{Fg: api.Palette + 3, Bg: api.Palette + 4}
	bold := api.Attr{Fg: a.Fg, Bg: a.Bg, Flags: api.Bold}
	for _, c := range []struct {
		params []int
		want   api.Attr
	}{
		{[]int{38, 5, 256, 1}, bold}, // used up all the same
		{[]int{48, 5, -1, 1}, bold},
		{[]int{38, 2, 256, 0, 0, 1}, bold},
		{[]int{38, 2, 0, 256, 0, 1}, bold},
		{[]int{48, 2, 0, 0, 256, 1}, bold},
		{[]int{48, 2, -1, 0, 0, 1}, bold},
		{[]int{48, 2, 0, -1, 0, 1}, bold},
		{[]int{38, 2, 0, 0, math.MinInt, 1}, bold},
		{[]int{38, 2, math.MaxInt, math.MaxInt, math.MaxInt, 1}, bold},
		{[]int{38, 5, 0x101, 1}, bold},
		{[]int{1, 38}, bold}, // too few
		{[]int{1, 48, 5}, bold},
		{[]int{1, 38, 2}, bold},
		{[]int{1, 38, 2, 0}, bold},
		{[]int{1, 48, 2, 0, 0}, bold},
		{[]int{1, 38, 2, 4, 9}, bold},
		{[]int{1, 38, 0, 4, 9, 0}, bold}, // another one
		{[]int{1, 48, 1, 31, 41, 0}, bold},
		{[]int{1, 38, 3, 4, 5, 6, 0}, bold},
		{[]int{1, 38, 6, 7, 0, 0, 0, 0}, bold},
		{[]int{1, 48, 38, 5, 9}, bold},
		{[]int{1, 38, -5, 0, 0}, bold},
		{[]int{-1, 1, math.MinInt, math.MaxInt, 65535, 256, 257, 1 << 32, 1<<32 + 4}, bold},
	} {
		if got := attr.Apply(a, c.params); got != c.want {
			t.Errorf("Apply(%v, %v): %v; want %v", a, c.params, got, c.want)
		}
	}
}

func TestP1202EachParam(t *testing.T) {
	same(t, nil)
	for n := -300; n <= 1100; n++ {
		same(t, []int{n})
		same(t, []int{n, 1})
		same(t, []int{9, n})
	}
	for _, n := range []int{math.MinInt, math.MinInt + 38, -1 << 32, 1 << 31, 1<<32 + 1, 1<<32 + 38, 1<<63 - 1} {
		same(t, []int{n})
		same(t, []int{n, 5, 1})
	}
}

func TestP1202WhatStandsBehind(t *testing.T) {
	edges := []int{-1, 0, 2, 5, 38, 255, 256}
	var each func(l []int, more int)
	each = func(l []int, more int) {
		same(t, append([]int{38}, l...))
		same(t, append([]int{3, 48}, l...))
		if more == 0 {
			return
		}
		for _, n := range edges {
			each(append(slices.Clip(l), n), more-1)
		}
	}
	each(nil, 5)
}

func TestP1202EachNumberOfColours(t *testing.T) {
	for n := -3; n <= 260; n++ {
		for _, p := range []int{38, 48} {
			same(t, []int{p, 5, n, 4})
			same(t, []int{p, 2, n, 1, 2, 4})
			same(t, []int{p, 2, 1, n, 2, 4})
			same(t, []int{p, 2, 1, 2, n, 4})
		}
	}
}

func TestP1202AnyParams(t *testing.T) {
	s := numbers(12)
	for range 20000 {
		same(t, s.params(s.below(24)))
	}
}

func TestP1202LongLists(t *testing.T) {
	var l []int
	for range 100000 {
		l = append(l, 38, 2, 1, 2, 3, 48, 5, 9, 1, 22, 4)
	}
	want := api.Attr{Fg: api.Direct + 0x010203, Bg: api.Palette + 9, Flags: api.Underline}
	if a := attr.Apply(api.Attr{}, l); a != want {
		t.Errorf("%v; want %v", a, want)
	}
}

// What is not Right stays, but for what params set or take back.
func TestP1202OfWhatIsNotRight(t *testing.T) {
	a := api.Attr{Fg: -1, Bg: api.Palette + 256, Flags: 1 << 20}
	if got := attr.Apply(a, []int{1, 2, 22, 38, 5, 256}); got != a {
		t.Errorf("%v; want %v", got, a)
	}
	if got := attr.Apply(a, nil); got != (api.Attr{}) {
		t.Errorf("%v", got)
	}
}

func TestP1202LeavesItsParams(t *testing.T) {
	s := numbers(3)
	for range 1000 {
		l := s.params(s.below(12))
		room := l[:cap(l)]
		before := slices.Clone(room)
		attr.Apply(api.Attr{}, l)
		if !slices.Equal(room, before) {
			t.Fatalf("%v became %v", before, room)
		}
	}
}

func TestP1203Params(t *testing.T) {
	most := 0
	for _, fore := range hues() {
		for _, back := range hues() {
			for flags := range 256 {
				l := flagged(flags, fore, back)
				params := attr.Params(l.attr())
				if len(params) == 0 || len(params) > 19 || params[0] != 0 {
					t.Fatalf("Params(%v): %v", l.attr(), params)
				}
				for _, x := range starts() {
					if plain(x, params) != l || attr.Apply(x.attr(), params) != l.attr() {
						t.Fatalf("Params(%v): %v, %v", l.attr(), params, attr.Apply(x.attr(), params))
					}
				}
				most = max(most, len(params))
			}
		}
	}
	if most != 19 {
		t.Errorf("at most %d params: all flags and two colours of 24 bits take 19", most)
	}
}

func TestP1203EachColour(t *testing.T) {
	check := func(h hue) {
		for _, l := range []looks{{fore: h}, {back: h}} {
			params := attr.Params(l.attr())
			if plain(starts()[1], params) != l {
				t.Fatalf("Params(%v): %v", l.attr(), params)
			}
		}
	}
	for n := range 256 {
		check(hue{kind: 'p', n: n})
		check(hue{kind: 'd', r: n, g: 255 - n, b: n / 2})
	}
	for n := 0; n < 1<<24; n += 4093 {
		check(hue{kind: 'd', r: n >> 16, g: n >> 8 & 255, b: n & 255})
	}
}

// Of what is not Right the program answers none.
func TestP1203OfWhatIsNotRight(t *testing.T) {
	for _, c := range none {
		for _, a := range []api.Attr{{Fg: c}, {Bg: c}, {Fg: c, Bg: c, Flags: c}} {
			if l := attr.Params(a); len(l) != 0 {
				t.Errorf("Params(%v): %v", a, l)
			}
		}
	}
}

func TestP1203NewMemory(t *testing.T) {
	for _, a := range []api.Attr{{}, {Flags: 255}, {Fg: api.Direct + 5, Bg: api.Palette + 200, Flags: 3}} {
		one, other := attr.Params(a), attr.Params(a)
		want := slices.Clone(other)
		for i := range one[:cap(one)] {
			one[:cap(one)][i] = -7
		}
		if !slices.Equal(other, want) || !slices.Equal(attr.Params(a), want) {
			t.Errorf("Params(%v) share their memory", a)
		}
	}
}
