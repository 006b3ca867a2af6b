package pixel_test

import (
	"bytes"
	"math"
	"math/big"
	"slices"
	"testing"

	"phosphor/api"
	"phosphor/pixel"
)

// numbers is a short rule for numbers that look like any.
type numbers uint64

func (s *numbers) below(n int) int {
	*s = *s*6364136223846793005 + 1442695040888963407
	return int(uint32(*s>>32) % uint32(n))
}

func (s *numbers) bytes(n int) []byte {
	b := make([]byte, n)
	for i := range b {
		b[i] = byte(s.below(256))
	}
	return b
}

// matrix is one of any pixels, with spare room behind them.
func (s *numbers) matrix(w, h int) api.Matrix {
	return api.Matrix{W: w, H: h, P: s.bytes(4*w*h + 8)[:4*w*h]}
}

// color is any.
func (s *numbers) color() pixel.Color { return pixel.Color(s.bytes(4)) }

// numbersAround are places around a side of n, and far from it.
func numbersAround(n int) []int {
	return []int{
		math.MinInt, math.MinInt + 1, math.MinInt32, -1<<20 - 1, -1 << 20, -1<<20 + 1, -1<<20 + 2, -n - 1, -n, 1 - n, -2, -1,
		0, 1, 2, n - 1, n, n + 1, 1 << 14, 1<<20 - 1, 1 << 20, 1<<20 + 1, math.MaxInt32, math.MaxInt - 1, math.MaxInt,
	}
}

// around is one of these, more often a near one.
func (s *numbers) around(n int) int {
	if s.below(3) > 0 {
		return s.below(3*n+3) - n - 1
	}
	l := numbersAround(n)
	return l[s.below(len(l))]
}

// all is a slice with its spare room.
func all(b []byte) []byte { return b[:cap(b)] }

// sameBytes is what Same has to tell of matrices that are Right.
func sameBytes(a, b api.Matrix) bool {
	return a.W == b.W && a.H == b.H && bytes.Equal(a.P, b.P)
}

// nothing tells whether a matrix is the zero one.
func nothing(m api.Matrix) bool { return m.W == 0 && m.H == 0 && len(m.P) == 0 }

// paint is a matrix of what a rule says of each place.
func paint(w, h int, rule func(x, y int) pixel.Color) api.Matrix {
	m := api.Matrix{W: w, H: h}
	for y := range h {
		for x := range w {
			c := rule(x, y)
			m.P = append(m.P, c[:]...)
		}
	}
	return m
}

// pick is a pixel that m has.
func pick(m api.Matrix, x, y int) pixel.Color {
	return pixel.Color(m.P[4*(y*m.W+x):])
}

// covers is P703's words on one place and one axis: the part begins at from, and is so long.
func covers(at, from, long int) bool {
	long = min(long, 1<<20)
	return long >= 1 && at >= from && uint64(at)-uint64(from) < uint64(long)
}

// over is P702's words, told by division of greater numbers.
func over(dst, src pixel.Color) pixel.Color {
	out := pixel.Color{0, 0, 0, 255}
	for i := range 3 {
		sum := uint64(src[i])*uint64(src[3]) + uint64(dst[i])*(255-uint64(src[3])) + 127
		out[i] = byte(sum / 255)
	}
	return out
}

// scaled is P702's words, by numbers without an end.
func scaled(v, from, to int64) int64 {
	product := new(big.Int).Mul(big.NewInt(v), big.NewInt(to))
	if v < 0 || v > from || from < 1 || to < 0 || product.Cmp(big.NewInt(1<<30)) > 0 {
		return 0
	}
	product.Add(product, big.NewInt(from/2))
	return product.Div(product, big.NewInt(from)).Int64()
}

// wrongs are matrices that are not Right.
func wrongs() []api.Matrix {
	return []api.Matrix{
		{W: 0, H: 0, P: []byte{1}},
		{W: 0, H: 0, P: make([]byte, 4)},
		{W: 0, H: 1},
		{W: 1, H: 0},
		{W: 0, H: 1, P: make([]byte, 4)},
		{W: 0, H: -1},
		{W: -1, H: -1, P: make([]byte, 4)},
		{W: -2, H: -3, P: make([]byte, 24)},
		{W: -1, H: 1},
		{W: 1, H: -1, P: make([]byte, 4)},
		{W: 1, H: 1},
		{W: 1, H: 1, P: make([]byte, 3)},
		{W: 1, H: 1, P: make([]byte, 3, 4)},
		{W: 1, H: 1, P: make([]byte, 5)},
		{W: 2, H: 3, P: make([]byte, 23)},
		{W: 2, H: 3, P: make([]byte, 25)},
		{W: 2, H: 3, P: make([]byte, 6)},
		{W: 2, H: 3, P: make([]byte, 18)},
		{W: 3, H: 3},
		{W: 3, H: 3, P: make([]byte, 35)},
		{W: 16385, H: 1, P: make([]byte, 4*16385)},
		{W: 1, H: 16385, P: make([]byte, 4*16385)},
		{W: 1 << 32, H: 1 << 32},
		{W: 1 << 31, H: 1 << 33},
		{W: 1 << 62, H: 4},
		{W: 4, H: 1 << 62},
		{W: math.MaxInt, H: math.MaxInt, P: make([]byte, 4)},
		{W: math.MinInt, H: math.MinInt},
		{W: math.MinInt, H: 2},
		{W: math.MaxInt, H: 1, P: make([]byte, 4)},
	}
}

// may tells whether sides are those of a matrix that is Right.
func may(w, h int) bool {
	if w == 0 || h == 0 {
		return w == h
	}
	return w >= 1 && h >= 1 && w <= 16384 && h <= 16384 && w*h <= 67108864
}

// sides are pairs that may be, and that may not, none that is great but of the sides that it has.
func sides() [][2]int {
	out := [][2]int{{16384, 1}, {1, 16384}, {16384, 2}, {3, 16384}, {100, 100}}
	wrong := []int{math.MinInt, math.MinInt + 1, -1 << 32, -16384, -2, -1, 0, 1, 2, 16385, 1 << 20, 1 << 26, 1<<26 + 1, 1 << 31, 1 << 32, 1 << 62, math.MaxInt}
	for _, w := range wrong {
		for _, h := range wrong {
			out = append(out, [2]int{w, h})
		}
	}
	return out
}

func TestP701Right(t *testing.T) {
	for _, m := range []api.Matrix{
		{},
		{P: []byte{}},
		{P: make([]byte, 0, 9)},
		{W: 1, H: 1, P: []byte{1, 2, 3, 4}},
		{W: 1, H: 1, P: make([]byte, 4, 9)},
		{W: 2, H: 3, P: make([]byte, 24)},
		{W: 3, H: 2, P: make([]byte, 24)},
		{W: 16384, H: 1, P: make([]byte, 4*16384)},
		{W: 1, H: 16384, P: make([]byte, 4*16384)},
	} {
		if !pixel.Right(m) {
			t.Errorf("P701: %d by %d, %d bytes: not Right", m.W, m.H, len(m.P))
		}
	}
	for _, m := range wrongs() {
		if pixel.Right(m) {
			t.Errorf("P701: %d by %d, %d bytes: Right", m.W, m.H, len(m.P))
		}
	}
}

func TestP701TheGreatest(t *testing.T) {
	room := make([]byte, 4*16384*4097+1)
	for _, c := range []struct {
		w, h  int
		right bool
	}{
		{8192, 8192, true}, {16384, 4096, true}, {4096, 16384, true}, {16383, 4096, true},
		{8193, 8192, false}, {8192, 8193, false}, {16384, 4097, false}, {4097, 16384, false},
	} {
		size := 4 * c.w * c.h
		for _, n := range []int{size - 1, size, size + 1} {
			want := c.right && n == size
			if pixel.Right(api.Matrix{W: c.w, H: c.h, P: room[:n]}) != want {
				t.Errorf("P701: Right of %d by %d, %d bytes: not %v", c.w, c.h, n, want)
			}
		}
		made, short := api.OK, api.ErrShort
		if !c.right {
			made, short, size = api.ErrArg, api.ErrArg, 0
		}
		if m, e := pixel.New(c.w, c.h); e != made || len(m.P) != size {
			t.Errorf("P701: New(%d, %d): %v, %d bytes", c.w, c.h, e, len(m.P))
		}
		if m, e := pixel.FromRGB(c.w, c.h, room[:3*c.w*c.h-1]); e != short || !nothing(m) {
			t.Errorf("P701: FromRGB(%d, %d) of a byte less: %v; want %v", c.w, c.h, e, short)
		}
		if m, e := pixel.FromRGBA(c.w, c.h, room[:4*c.w*c.h-1]); e != short || !nothing(m) {
			t.Errorf("P701: FromRGBA(%d, %d) of a byte less: %v; want %v", c.w, c.h, e, short)
		}
	}
}

func TestP701New(t *testing.T) {
	for _, c := range sides() {
		m, e := pixel.New(c[0], c[1])
		if !may(c[0], c[1]) {
			if e != api.ErrArg || !nothing(m) {
				t.Errorf("P701: New(%d, %d): %v, %d by %d; want arg", c[0], c[1], e, m.W, m.H)
			}
			continue
		}
		if e != api.OK || m.W != c[0] || m.H != c[1] || !pixel.Right(m) || !bytes.Equal(m.P, make([]byte, 4*c[0]*c[1])) {
			t.Errorf("P701: New(%d, %d): %v, %d by %d, %d bytes", c[0], c[1], e, m.W, m.H, len(m.P))
		}
	}
	a, _ := pixel.New(2, 2)
	b, _ := pixel.New(2, 2)
	a.P[0] = 1
	if c, _ := pixel.New(2, 2); b.P[0] != 0 || c.P[0] != 0 {
		t.Error("P7: two of New are one")
	}
}

func TestP701FromRGB(t *testing.T) {
	s := numbers(1)
	for _, c := range [][2]int{{0, 0}, {1, 1}, {2, 3}, {3, 2}, {1, 7}, {16384, 1}, {1, 16384}, {40, 50}} {
		w, h := c[0], c[1]
		b := s.bytes(3*w*h + 5)[: 3*w*h : 3*w*h+3]
		kept := slices.Clone(all(b))
		m, e := pixel.FromRGB(w, h, b)
		want := paint(w, h, func(x, y int) pixel.Color {
			i := 3 * (y*w + x)
			return pixel.Color{kept[i], kept[i+1], kept[i+2], 255}
		})
		if e != api.OK || !sameBytes(m, want) || !pixel.Right(m) {
			t.Errorf("P701: FromRGB(%d, %d): %v", w, h, e)
		}
		clear(all(m.P))
		if !bytes.Equal(all(b), kept) {
			t.Errorf("P2: FromRGB(%d, %d) changes what it was handed", w, h)
		}
	}
}

func TestP701FromRGBA(t *testing.T) {
	s := numbers(2)
	for _, c := range [][2]int{{0, 0}, {1, 1}, {2, 3}, {3, 2}, {1, 7}, {16384, 1}, {1, 16384}, {40, 50}} {
		w, h := c[0], c[1]
		b := s.bytes(4*w*h + 5)[: 4*w*h : 4*w*h+3]
		kept := slices.Clone(all(b))
		m, e := pixel.FromRGBA(w, h, b)
		if e != api.OK || !sameBytes(m, api.Matrix{W: w, H: h, P: kept[:4*w*h]}) || !pixel.Right(m) {
			t.Errorf("P701: FromRGBA(%d, %d): %v", w, h, e)
		}
		clear(all(m.P))
		if !bytes.Equal(all(b), kept) {
			t.Errorf("P2: FromRGBA(%d, %d) changes what it was handed", w, h)
		}
		m, _ = pixel.FromRGBA(w, h, b)
		clear(b)
		if !bytes.Equal(m.P, kept[:4*w*h]) {
			t.Errorf("P2: FromRGBA(%d, %d) keeps what it was handed", w, h)
		}
	}
}

func TestP701FaultsOfBytes(t *testing.T) {
	for n, of := range map[int]func(w, h int, b []byte) (api.Matrix, api.Errno){3: pixel.FromRGB, 4: pixel.FromRGBA} {
		fails := func(w, h, size int, want api.Errno) {
			t.Helper()
			if m, e := of(w, h, make([]byte, size, size+64)); e != want || want != api.OK && !nothing(m) {
				t.Errorf("P701: %d bytes a pixel, %d by %d of %d bytes: %v; want %v", n, w, h, size, e, want)
			}
		}
		for _, c := range sides() {
			if !may(c[0], c[1]) {
				for _, size := range []int{0, 1, n, 4 * n, 100} { // ErrArg comes first
					fails(c[0], c[1], size, api.ErrArg)
				}
				continue
			}
			size := n * c[0] * c[1]
			fails(c[0], c[1], size, api.OK)
			fails(c[0], c[1], size+1, api.ErrLong)
			fails(c[0], c[1], size+n, api.ErrLong)
			if size > 0 {
				fails(c[0], c[1], size-1, api.ErrShort)
				fails(c[0], c[1], size-n, api.ErrShort)
				fails(c[0], c[1], 0, api.ErrShort)
			}
		}
		if m, e := of(0, 0, nil); e != api.OK || !nothing(m) {
			t.Errorf("P701: nothing, %d bytes a pixel: %v", n, e)
		}
	}
	if _, e := pixel.FromRGB(2, 2, make([]byte, 16)); e != api.ErrLong {
		t.Errorf("P701: four bytes a pixel are more than three: %v", e)
	}
	if _, e := pixel.FromRGBA(2, 2, make([]byte, 12)); e != api.ErrShort {
		t.Errorf("P701: three bytes a pixel are fewer than four: %v", e)
	}
}

func TestP702AtAndSet(t *testing.T) {
	s := numbers(3)
	for _, c := range [][2]int{{0, 0}, {1, 1}, {3, 2}, {2, 5}, {7, 1}} {
		m := s.matrix(c[0], c[1])
		kept := slices.Clone(all(m.P))
		for _, x := range numbersAround(m.W) {
			for _, y := range numbersAround(m.H) {
				atAndSet(t, m, x, y, s.color())
				if !bytes.Equal(all(m.P), kept) {
					t.Fatalf("P2: At or Set changes what it was handed")
				}
			}
		}
	}
}

// atAndSet tries one place.
func atAndSet(t *testing.T, m api.Matrix, x, y int, c pixel.Color) {
	t.Helper()
	in := x >= 0 && x < m.W && y >= 0 && y < m.H
	var want pixel.Color
	if in {
		want = pick(m, x, y)
	}
	if v, ok := pixel.At(m, x, y); v != want || ok != in {
		t.Errorf("P702: At(%d by %d, %d, %d): %v, %v; want %v, %v", m.W, m.H, x, y, v, ok, want, in)
	}
	like := paint(m.W, m.H, func(px, py int) pixel.Color {
		if px == x && py == y {
			return c
		}
		return pick(m, px, py)
	})
	out, ok := pixel.Set(m, x, y, c)
	if ok != in || !sameBytes(out, like) {
		t.Errorf("P702: Set(%d by %d, %d, %d): %v, %v; want %v, %v", m.W, m.H, x, y, out, ok, like, in)
	}
	clear(all(out.P))
}

func TestP702Over(t *testing.T) {
	for _, c := range []struct{ dst, src, want pixel.Color }{
		{pixel.Color{100, 200, 0, 7}, pixel.Color{200, 0, 255, 128}, pixel.Color{150, 100, 128, 255}},
		{pixel.Color{1, 2, 3, 0}, pixel.Color{9, 8, 7, 0}, pixel.Color{1, 2, 3, 255}},
		{pixel.Color{1, 2, 3, 255}, pixel.Color{9, 8, 7, 255}, pixel.Color{9, 8, 7, 255}},
		{pixel.Color{}, pixel.Color{}, pixel.Color{0, 0, 0, 255}},
		{pixel.Color{255, 255, 255, 255}, pixel.Color{255, 255, 255, 1}, pixel.Color{255, 255, 255, 255}},
		{pixel.Color{0, 0, 0, 1}, pixel.Color{127, 128, 255, 1}, pixel.Color{0, 1, 1, 255}}, // the half: downwards below it
		{pixel.Color{0, 0, 0, 1}, pixel.Color{255, 128, 127, 127}, pixel.Color{127, 64, 63, 255}},
	} {
		if v := pixel.Over(c.dst, c.src); v != c.want {
			t.Errorf("P702: Over(%v, %v): %v; want %v", c.dst, c.src, v, c.want)
		}
	}
}

func TestP702OverOfAll(t *testing.T) {
	for a := range 256 {
		for d := range 256 {
			for v := range 256 { // each channel has numbers of its own
				dst := pixel.Color{byte(d), byte(v), byte(a), byte(d)}
				src := pixel.Color{byte(v), byte(d), byte(255 - v), byte(a)}
				if c := pixel.Over(dst, src); c != over(dst, src) {
					t.Fatalf("P702: Over(%v, %v): %v; want %v", dst, src, c, over(dst, src))
				}
			}
		}
	}
}

func TestP702ScaleOfInts(t *testing.T) {
	for _, c := range []struct{ v, from, to, want int }{
		{3, 7, 255, 109}, {0, 1, 255, 0}, {1, 1, 255, 255}, {1, 2, 1, 1}, {1, 3, 1, 0}, {2, 3, 1, 1}, {1, 2, 3, 2}, {1, 4, 2, 1}, {0, 5, 5, 0}, {5, 5, 0, 0},
		{50, 100, 255, 128}, {100, 100, 65535, 65535}, {127, 255, 100, 50},
		{1, 0, 1, 0}, {0, 0, 1, 0}, {0, 0, 0, 0}, {8, 7, 1, 0}, {-1, 7, 255, 0}, {1, -7, 255, 0}, {-7, -7, 255, 0}, {-8, -7, 255, 0}, {1, 7, -255, 0}, {-1, 7, -255, 0},
		{1, 1, 1 << 30, 1 << 30}, {1, 1, 1<<30 + 1, 0}, {1 << 15, 1 << 15, 1 << 15, 1 << 15}, {1 << 15, 1 << 15, 1<<15 + 1, 0}, {1 << 20, 1 << 20, 1 << 20, 0},
		{1 << 30, 1 << 30, 1, 1}, {1<<30 + 1, 1<<30 + 1, 1, 0}, {1 << 30, math.MaxInt, 1, 0}, {1, math.MaxInt, 1 << 30, 0},
		{1 << 29, 1 << 31, 2, 1}, {1<<30 - 1, 1 << 31, 1, 0}, {1 << 30, 1 << 31, 1, 1},
		{1 << 32, 1 << 32, 1 << 32, 0}, {1 << 62, 1 << 62, 4, 0}, {3, 3, math.MaxInt, 0}, {math.MaxInt, math.MaxInt, math.MaxInt, 0}, {math.MaxInt, math.MaxInt, 1, 0}, {math.MaxInt, math.MaxInt, 0, 0},
		{0, math.MaxInt, math.MaxInt, 0}, {0, 1, math.MaxInt, 0}, {math.MinInt, math.MaxInt, 2, 0}, {math.MinInt, math.MinInt, math.MinInt, 0},
	} {
		if v := pixel.Scale(c.v, c.from, c.to); v != c.want || int64(v) != scaled(int64(c.v), int64(c.from), int64(c.to)) {
			t.Errorf("P702: Scale(%d, %d, %d): %d; want %d", c.v, c.from, c.to, v, c.want)
		}
	}
	edges := []int{math.MinInt, -1 << 32, -256, -1, 0, 1, 2, 3, 7, 100, 255, 256, 32767, 32768, 32769, 65535, 65536, 1<<29 - 1, 1 << 29, 1<<30 - 1, 1 << 30, 1<<30 + 1, 1 << 31, 1 << 32, 1 << 40, 1<<40 + 1, 1 << 62, math.MaxInt - 1, math.MaxInt}
	for _, v := range edges {
		for _, from := range edges {
			for _, to := range edges {
				if out := pixel.Scale(v, from, to); int64(out) != scaled(int64(v), int64(from), int64(to)) {
					t.Errorf("P702: Scale(%d, %d, %d): %d", v, from, to, out)
				}
			}
		}
	}
}

// tone and depth are types of a project's own.
type (
	tone  uint8
	depth uint16
	long  int
)

func TestP702ScaleOfSmall(t *testing.T) {
	for v := range 256 {
		for from := range 256 {
			for to := range 256 { // no product wraps
				want := 0
				if from > 0 && v <= from {
					want = (v*to + from/2) / from
				}
				if out := pixel.Scale(uint8(v), uint8(from), uint8(to)); int(out) != want {
					t.Fatalf("P702: Scale[uint8](%d, %d, %d): %d; want %d", v, from, to, out, want)
				}
				if out := pixel.Scale(tone(v), tone(from), tone(to)); int(out) != want {
					t.Fatalf("P702: Scale[tone](%d, %d, %d): %d; want %d", v, from, to, out, want)
				}
			}
		}
	}
	edges := []int{0, 1, 2, 15, 16, 17, 255, 256, 257, 16383, 16384, 16385, 32767, 32768, 32769, 65534, 65535}
	for _, v := range edges {
		for _, from := range edges {
			for _, to := range edges { // 65535 times 65535 is above 1 << 30
				want := scaled(int64(v), int64(from), int64(to))
				if out := pixel.Scale(uint16(v), uint16(from), uint16(to)); int64(out) != want {
					t.Errorf("P702: Scale[uint16](%d, %d, %d): %d; want %d", v, from, to, out, want)
				}
				if out := pixel.Scale(depth(v), depth(from), depth(to)); int64(out) != want {
					t.Errorf("P702: Scale[depth](%d, %d, %d): %d; want %d", v, from, to, out, want)
				}
				if out := pixel.Scale(long(v), long(from), long(to)); int64(out) != want {
					t.Errorf("P702: Scale[long](%d, %d, %d): %d; want %d", v, from, to, out, want)
				}
			}
		}
	}
}

func TestP703Cut(t *testing.T) {
	s := numbers(4)
	for range 20000 {
		m := s.matrix(1+s.below(6), 1+s.below(6))
		if s.below(20) == 0 {
			m = api.Matrix{}
		}
		cut(t, m, s.around(m.W), s.around(m.H), s.around(m.W), s.around(m.H))
	}
	m := s.matrix(3, 4)
	for _, c := range []struct{ x, y, w, h, ofW, ofH int }{
		{0, 0, 3, 4, 3, 4}, {0, 0, 0, 4, 0, 0}, {0, 0, 3, 0, 0, 0}, {1, 1, -1, -1, 0, 0}, {2, 3, 1, 1, 1, 1}, {3, 3, 1, 1, 0, 0}, {2, 4, 1, 1, 0, 0},
		{-1, -1, 1, 9, 0, 0}, {-1, -1, 2, 9, 1, 4}, {-1, -2, 9, 9, 3, 4},
		{1, 2, math.MaxInt, math.MaxInt, 2, 2}, {math.MaxInt, 0, math.MaxInt, 1, 0, 0}, {math.MinInt, 0, math.MaxInt, 1, 0, 0}, {0, math.MinInt, 1, math.MinInt, 0, 0},
		{-1 << 20, 0, math.MaxInt, 1, 0, 0}, {1 - 1<<20, 0, math.MaxInt, 1, 1, 1}, {2 - 1<<20, 3 - 1<<20, 1<<20 + 1, 1 << 30, 2, 3}, {3 - 1<<20, 0, 1 << 20, 1, 3, 1}, {1 - 1<<20, 0, 1<<20 - 1, 1, 0, 0},
	} {
		if out := cut(t, m, c.x, c.y, c.w, c.h); out.W != c.ofW || out.H != c.ofH {
			t.Errorf("P703: Cut(3 by 4, %d, %d, %d, %d): %d by %d; want %d by %d", c.x, c.y, c.w, c.h, out.W, out.H, c.ofW, c.ofH)
		}
	}
}

// cut fails unless a part is that one; what it tells is told.
func cut(t *testing.T, m api.Matrix, x, y, w, h int) api.Matrix {
	t.Helper()
	var columns, rows []int
	for i := range m.W {
		if covers(i, x, w) {
			columns = append(columns, i)
		}
	}
	for i := range m.H {
		if covers(i, y, h) {
			rows = append(rows, i)
		}
	}
	if len(columns) == 0 || len(rows) == 0 {
		columns, rows = nil, nil
	}
	kept := slices.Clone(all(m.P))
	want := paint(len(columns), len(rows), func(px, py int) pixel.Color { return pick(m, columns[px], rows[py]) })
	out := pixel.Cut(m, x, y, w, h)
	if !sameBytes(out, want) || !pixel.Right(out) {
		t.Fatalf("P703: Cut(%v, %d, %d, %d, %d): %v; want %v", m, x, y, w, h, out, want)
	}
	clear(all(out.P))
	if !bytes.Equal(all(m.P), kept) {
		t.Fatal("P2: Cut shares, or changes, what it was handed")
	}
	return out
}

func TestP703Fit(t *testing.T) {
	s := numbers(5)
	for _, from := range [][2]int{{1, 1}, {2, 3}, {7, 5}, {16, 1}, {1, 9}} {
		m := s.matrix(from[0], from[1])
		for w := 1; w < 25; w++ {
			for h := 1; h < 25; h++ {
				fit(t, m, w, h)
			}
		}
	}
	for _, c := range [][4]int{{16384, 1, 16384, 1}, {16384, 1, 16383, 2}, {16383, 2, 16384, 1}, {1, 16384, 3, 16383}, {1, 16383, 1, 16384}, {1, 1, 16384, 1}, {1, 1, 1, 16384}, {16384, 2, 1, 1}, {3, 3, 0, 0}, {0, 0, 0, 0}} {
		if c[2] > 0 {
			fit(t, s.matrix(c[0], c[1]), c[2], c[3])
		}
	}
	for _, m := range []api.Matrix{{}, {P: []byte{}}, {P: make([]byte, 0, 8)}} {
		if out, e := pixel.Fit(m, 0, 0); e != api.OK || !nothing(out) {
			t.Errorf("P703: Fit of nothing to nothing: %v", e)
		}
	}
}

// fit fails unless Fit tells a matrix of these sides.
func fit(t *testing.T, m api.Matrix, w, h int) {
	t.Helper()
	kept := slices.Clone(all(m.P))
	want := paint(w, h, func(x, y int) pixel.Color { return pick(m, x*m.W/w, y*m.H/h) })
	out, e := pixel.Fit(m, w, h)
	if e != api.OK || !sameBytes(out, want) {
		t.Fatalf("P703: Fit(%d by %d, %d, %d): %v, %d by %d", m.W, m.H, w, h, e, out.W, out.H)
	}
	clear(all(out.P))
	if !bytes.Equal(all(m.P), kept) {
		t.Fatal("P2: Fit shares, or changes, what it was handed")
	}
}

func TestP703FitFaults(t *testing.T) {
	s := numbers(6)
	one, none := s.matrix(2, 2), api.Matrix{}
	for _, c := range sides() {
		w, h := c[0], c[1]
		if out, e := pixel.Fit(one, w, h); may(w, h) && w > 0 {
			if e != api.OK || out.W != w || out.H != h {
				t.Errorf("P703: Fit(2 by 2, %d, %d): %v", w, h, e)
			}
		} else if e != api.ErrArg || !nothing(out) {
			t.Errorf("P703: Fit(2 by 2, %d, %d): %v; want arg", w, h, e)
		}
		if out, e := pixel.Fit(none, w, h); w == 0 && h == 0 {
			if e != api.OK || !nothing(out) {
				t.Errorf("P703: Fit(0 by 0, 0, 0): %v", e)
			}
		} else if e != api.ErrArg || !nothing(out) {
			t.Errorf("P703: Fit(0 by 0, %d, %d): %v; want arg", w, h, e)
		}
	}
	for _, c := range [][2]int{{8193, 8192}, {16384, 4097}, {4097, 16384}, {16384, 16384}} {
		if out, e := pixel.Fit(one, c[0], c[1]); e != api.ErrArg || !nothing(out) {
			t.Errorf("P703: Fit(2 by 2, %d, %d): %v; want arg", c[0], c[1], e)
		}
	}
}

func TestP703Fill(t *testing.T) {
	s := numbers(7)
	for range 20000 {
		m := s.matrix(1+s.below(6), 1+s.below(6))
		if s.below(20) == 0 {
			m = api.Matrix{}
		}
		fill(t, m, s.around(m.W), s.around(m.H), s.around(m.W), s.around(m.H), s.color())
	}
	m := s.matrix(3, 4)
	for _, n := range numbersAround(3) {
		for _, k := range numbersAround(4) {
			fill(t, m, n, 0, k, 2, s.color())
			fill(t, m, 0, n, 2, k, s.color())
			fill(t, m, n, n, k, k, s.color())
		}
	}
	out := pixel.Fill(m, 1, 1, 1, 1, pixel.Color{1, 2, 3, 0}) // no drawing over: an alpha, too, is as it is
	if c, _ := pixel.At(out, 1, 1); c != (pixel.Color{1, 2, 3, 0}) {
		t.Errorf("P703: Fill: %v", c)
	}
}

// fill fails unless a part, and it alone, has one colour.
func fill(t *testing.T, m api.Matrix, x, y, w, h int, c pixel.Color) {
	t.Helper()
	kept := slices.Clone(all(m.P))
	want := paint(m.W, m.H, func(px, py int) pixel.Color {
		if covers(px, x, w) && covers(py, y, h) {
			return c
		}
		return pick(m, px, py)
	})
	out := pixel.Fill(m, x, y, w, h, c)
	if !sameBytes(out, want) {
		t.Fatalf("P703: Fill(%v, %d, %d, %d, %d, %v): %v; want %v", m, x, y, w, h, c, out, want)
	}
	clear(all(out.P))
	if !bytes.Equal(all(m.P), kept) {
		t.Fatal("P2: Fill shares, or changes, what it was handed")
	}
}

func TestP703Draw(t *testing.T) {
	s := numbers(8)
	for range 20000 {
		dst, src := s.matrix(1+s.below(6), 1+s.below(6)), s.matrix(1+s.below(6), 1+s.below(6))
		if s.below(20) == 0 {
			dst = api.Matrix{}
		}
		if s.below(20) == 0 {
			src = api.Matrix{}
		}
		draw(t, dst, src, s.around(dst.W), s.around(dst.H))
	}
	dst, src := s.matrix(3, 4), s.matrix(2, 3)
	for _, x := range append(numbersAround(2), numbersAround(3)...) {
		for _, y := range append(numbersAround(3), numbersAround(4)...) {
			draw(t, dst, src, x, y)
		}
	}
	draw(t, dst, dst, 1, 1) // one matrix may be both
	draw(t, dst, dst, -1, 0)
	wide, high := s.matrix(16384, 1), s.matrix(1, 16384)
	draw(t, wide, high, 16383, -16383)
	draw(t, high, wide, -16383, 16383)
	draw(t, wide, wide, -8000, 0)
	draw(t, dst, wide, -16382, 1)
	draw(t, dst, high, 1, -16382)
}

// draw fails unless src alone, as far as it lies within, is drawn over dst.
func draw(t *testing.T, dst, src api.Matrix, x, y int) {
	t.Helper()
	keptDst, keptSrc := slices.Clone(all(dst.P)), slices.Clone(all(src.P))
	want := paint(dst.W, dst.H, func(px, py int) pixel.Color {
		c := pick(dst, px, py)
		if covers(px, x, src.W) && covers(py, y, src.H) {
			return over(c, pick(src, px-x, py-y))
		}
		return c
	})
	out := pixel.Draw(dst, src, x, y)
	if !sameBytes(out, want) {
		t.Fatalf("P703: Draw(%d by %d, %d by %d, %d, %d): not what it should be", dst.W, dst.H, src.W, src.H, x, y)
	}
	clear(all(out.P))
	if !bytes.Equal(all(dst.P), keptDst) || !bytes.Equal(all(src.P), keptSrc) {
		t.Fatal("P2: Draw shares, or changes, what it was handed")
	}
}

func TestP703Same(t *testing.T) {
	s := numbers(9)
	m := s.matrix(3, 2)
	twin := api.Matrix{W: 3, H: 2, P: slices.Clone(m.P)}
	if !pixel.Same(m, twin) || !pixel.Same(twin, m) || !pixel.Same(m, m) {
		t.Error("P703: Same of the same: false")
	}
	all(m.P)[len(m.P)]++ // spare room is no part of a matrix
	if !pixel.Same(m, twin) {
		t.Error("P703: Same, spare room: false")
	}
	for i := range twin.P {
		for _, bit := range []byte{1, 128} {
			twin.P[i] ^= bit
			if pixel.Same(m, twin) || pixel.Same(twin, m) {
				t.Errorf("P703: Same, but for byte %d: true", i)
			}
			twin.P[i] ^= bit
		}
	}
	for _, c := range []struct {
		a, b api.Matrix
		same bool
	}{
		{api.Matrix{}, api.Matrix{}, true},
		{api.Matrix{}, api.Matrix{P: []byte{}}, true},
		{api.Matrix{P: make([]byte, 0, 4)}, api.Matrix{}, true},
		{api.Matrix{W: 2, H: 3, P: make([]byte, 24)}, api.Matrix{W: 3, H: 2, P: make([]byte, 24)}, false},
		{api.Matrix{W: 1, H: 6, P: make([]byte, 24)}, api.Matrix{W: 6, H: 1, P: make([]byte, 24)}, false},
		{api.Matrix{W: 2, H: 2, P: make([]byte, 16)}, api.Matrix{W: 2, H: 1, P: make([]byte, 8)}, false},
		{api.Matrix{W: 2, H: 2, P: make([]byte, 16)}, api.Matrix{W: 1, H: 2, P: make([]byte, 8)}, false},
		{api.Matrix{W: 1, H: 1, P: make([]byte, 4)}, api.Matrix{}, false},
		{api.Matrix{}, api.Matrix{W: 1, H: 1, P: make([]byte, 4)}, false},
	} {
		if pixel.Same(c.a, c.b) != c.same {
			t.Errorf("P703: Same(%v, %v): not %v", c.a, c.b, c.same)
		}
	}
}

// Of what is not Right nothing is told but that it ends, and changes nothing.
func TestP1OfWhatIsNotRight(t *testing.T) {
	good := api.Matrix{W: 3, H: 3, P: make([]byte, 36)}
	for _, m := range wrongs() {
		kept := slices.Clone(all(m.P))
		for _, n := range []int{math.MinInt, -1 << 20, -2, -1, 0, 1, 2, 5, 1 << 14, 1 << 20, math.MaxInt} {
			for _, k := range []int{math.MinInt, -1 << 20, -1, 0, 1, 3, 1 << 20, math.MaxInt} {
				pixel.At(m, n, k)
				set, _ := pixel.Set(m, n, k, pixel.Color{1, 2, 3, 4})
				fitted, _ := pixel.Fit(m, n&7, k&7)
				outs := []api.Matrix{
					set, fitted,
					pixel.Cut(m, n, k, k, n), pixel.Cut(m, 0, 0, n, k),
					pixel.Fill(m, n, k, k, n, pixel.Color{1, 2, 3, 4}), pixel.Fill(m, 0, 0, n, k, pixel.Color{5, 6, 7, 8}),
					pixel.Draw(m, good, n, k), pixel.Draw(good, m, n, k), pixel.Draw(m, m, n, k),
				}
				for _, out := range outs {
					for i := range all(out.P) {
						all(out.P)[i] = 99
					}
				}
			}
		}
		pixel.Same(m, m)
		pixel.Same(m, good)
		pixel.Same(good, m)
		if !bytes.Equal(all(m.P), kept) {
			t.Errorf("P2: %d by %d, %d bytes: changed", m.W, m.H, len(m.P))
		}
	}
}

func TestP2AnswersStayAsTheyAre(t *testing.T) {
	s := numbers(10)
	m, src := s.matrix(4, 4), s.matrix(2, 2)
	set, _ := pixel.Set(m, 1, 1, pixel.Color{})
	unset, _ := pixel.Set(m, 4, 1, pixel.Color{})
	fitted, _ := pixel.Fit(m, 4, 4)
	outs := []api.Matrix{
		set, unset, fitted, pixel.Cut(m, 0, 0, 4, 4), pixel.Fill(m, 9, 9, 1, 1, pixel.Color{}), pixel.Fill(m, 1, 1, 1, 1, pixel.Color{}),
		pixel.Draw(m, src, 1, 1), pixel.Draw(m, api.Matrix{}, 0, 0), pixel.Draw(m, src, 9, 9),
	}
	var kept [][]byte
	for _, out := range outs {
		kept = append(kept, slices.Clone(out.P))
	}
	clear(all(m.P))
	clear(all(src.P))
	for i, out := range outs {
		if !bytes.Equal(out.P, kept[i]) {
			t.Errorf("P2: answer %d keeps what was handed in", i)
		}
	}
}
