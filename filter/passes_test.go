package filter_test

import (
	"math"
	"slices"
	"testing"

	"phosphor/filter"
)

// adam7 is the picture of PNG 8.2: which pass each pixel is of.
func adam7() []string {
	return []string{
		"16462646",
		"77777777",
		"56565656",
		"77777777",
		"36463646",
		"77777777",
		"56565656",
		"77777777",
	}
}

// counted is how many of n places a pass meets, one by one.
func counted(from, by, n int) (count int) {
	for at := range n {
		if at >= from && (at-from)%by == 0 {
			count++
		}
	}
	return count
}

func TestP802Passes(t *testing.T) {
	want := []filter.Pass{
		{X: 0, Y: 0, DX: 8, DY: 8},
		{X: 4, Y: 0, DX: 8, DY: 8},
		{X: 0, Y: 4, DX: 4, DY: 8},
		{X: 2, Y: 0, DX: 4, DY: 4},
		{X: 0, Y: 2, DX: 2, DY: 4},
		{X: 1, Y: 0, DX: 2, DY: 2},
		{X: 0, Y: 1, DX: 1, DY: 2},
	}
	got := filter.Passes()
	if !slices.Equal(got, want) {
		t.Fatalf("P802: Passes: %v; want %v", got, want)
	}
	clear(got[:cap(got)])
	if again := filter.Passes(); !slices.Equal(again, want) {
		t.Errorf("P2: Passes behind changes: %v", again)
	}
}

func TestP802PassesByThePicture(t *testing.T) {
	picture := adam7()
	for i, p := range filter.Passes() {
		for y := range 8 {
			for x := range 8 {
				of := x >= p.X && y >= p.Y && (x-p.X)%p.DX == 0 && (y-p.Y)%p.DY == 0
				if of != (int(picture[y][x]-'1') == i) {
					t.Errorf("P802: pass %d, pixel %d, %d: %v", i+1, x, y, of)
				}
			}
		}
	}
}

// Of every image the passes have each pixel once.
func TestP802SizesOfPasses(t *testing.T) {
	picture := adam7()
	for w := 1; w <= 20; w++ {
		for h := 1; h <= 20; h++ {
			var want, got [7]int
			for y := range h {
				for x := range w {
					want[picture[y%8][x%8]-'1']++
				}
			}
			for i, p := range filter.Passes() {
				wide, high := filter.Size(p, w, h)
				got[i] = wide * high
				if (wide == 0) != (high == 0) {
					t.Errorf("P802: Size(%v, %d, %d): %d, %d", p, w, h, wide, high)
				}
			}
			if got != want {
				t.Errorf("P802: %d by %d: %v; want %v", w, h, got, want)
			}
		}
	}
}

func TestP802Size(t *testing.T) {
	for _, c := range []struct {
		p          filter.Pass
		w, h       int
		wide, high int
	}{
		{filter.Pass{X: 0, Y: 0, DX: 1, DY: 1}, 16384, 16384, 16384, 16384},
		{filter.Pass{X: 0, Y: 0, DX: 1, DY: 1}, 1, 1, 1, 1},
		{filter.Pass{X: 0, Y: 0, DX: 8, DY: 8}, 1, 16384, 1, 2048},
		{filter.Pass{X: 0, Y: 0, DX: 8, DY: 8}, 9, 8, 2, 1},
		{filter.Pass{X: 0, Y: 0, DX: 8, DY: 8}, 8, 17, 1, 3},
		{filter.Pass{X: 4, Y: 0, DX: 8, DY: 8}, 4, 9, 0, 0},
		{filter.Pass{X: 4, Y: 0, DX: 8, DY: 8}, 5, 9, 1, 2},
		{filter.Pass{X: 4, Y: 0, DX: 8, DY: 8}, 3, 9, 0, 0},
		{filter.Pass{X: 0, Y: 4, DX: 4, DY: 8}, 9, 4, 0, 0},
		{filter.Pass{X: 0, Y: 4, DX: 4, DY: 8}, 9, 5, 3, 1},
		{filter.Pass{X: 0, Y: 1, DX: 1, DY: 2}, 16384, 1, 0, 0},
		{filter.Pass{X: 0, Y: 1, DX: 1, DY: 2}, 16384, 2, 16384, 1},
		{filter.Pass{X: 16383, Y: 16383, DX: 1, DY: 1}, 16384, 16384, 1, 1},
		{filter.Pass{X: 16384, Y: 0, DX: 1, DY: 1}, 16384, 16384, 0, 0},
		{filter.Pass{X: 0, Y: 16384, DX: 1, DY: 1}, 16384, 16384, 0, 0},
		{filter.Pass{X: math.MaxInt, Y: 0, DX: 1, DY: 1}, 16384, 1, 0, 0},
		{filter.Pass{X: 0, Y: math.MaxInt, DX: math.MaxInt, DY: math.MaxInt}, 16384, 1, 0, 0},
		{filter.Pass{X: 0, Y: 0, DX: math.MaxInt, DY: math.MaxInt}, 16384, 16384, 1, 1},
		{filter.Pass{X: 3, Y: 5, DX: math.MaxInt - 1, DY: 1 << 62}, 16384, 6, 1, 1},
		{filter.Pass{X: 0, Y: 0, DX: 16383, DY: 16384}, 16384, 16384, 2, 1},
	} {
		if wide, high := filter.Size(c.p, c.w, c.h); wide != c.wide || high != c.high {
			t.Errorf("P802: Size(%v, %d, %d): %d, %d; want %d, %d", c.p, c.w, c.h, wide, high, c.wide, c.high)
		}
	}
}

func TestP802SizeOfAnyPasses(t *testing.T) {
	s := numbers(5)
	for range 20000 {
		p := filter.Pass{X: s.below(30), Y: s.below(30), DX: 1 + s.below(12), DY: 1 + s.below(12)}
		w, h := 1+s.below(60), 1+s.below(60)
		wantWide, wantHigh := counted(p.X, p.DX, w), counted(p.Y, p.DY, h)
		if wantWide == 0 || wantHigh == 0 {
			wantWide, wantHigh = 0, 0
		}
		if wide, high := filter.Size(p, w, h); wide != wantWide || high != wantHigh {
			t.Fatalf("P802: Size(%v, %d, %d): %d, %d; want %d, %d", p, w, h, wide, high, wantWide, wantHigh)
		}
	}
}

func TestP802SizeOfWhatMayNotBe(t *testing.T) {
	right := filter.Pass{X: 1, Y: 2, DX: 3, DY: 4}
	none := func(p filter.Pass, w, h int) {
		if wide, high := filter.Size(p, w, h); wide != 0 || high != 0 {
			t.Errorf("P802: Size(%v, %d, %d): %d, %d", p, w, h, wide, high)
		}
	}
	for _, n := range []int{0, -1, -2, -16384, 16385, 1 << 20, 1<<32 + 9, 1 << 62, math.MaxInt, math.MinInt, math.MinInt + 1} {
		none(right, n, 9)
		none(right, 9, n)
		none(right, n, n)
	}
	for _, n := range []int{-1, -2, -8, math.MinInt, math.MinInt + 1} {
		none(filter.Pass{X: n, Y: 0, DX: 1, DY: 1}, 9, 9)
		none(filter.Pass{X: 0, Y: n, DX: 1, DY: 1}, 9, 9)
		none(filter.Pass{X: n, Y: n, DX: n, DY: n}, 9, 9)
	}
	for _, n := range []int{0, -1, -2, -8, math.MinInt, math.MinInt + 1} {
		none(filter.Pass{X: 0, Y: 0, DX: n, DY: 1}, 9, 9)
		none(filter.Pass{X: 0, Y: 0, DX: 1, DY: n}, 9, 9)
		none(filter.Pass{X: 20, Y: 0, DX: n, DY: 1}, 9, 9)
	}
	none(filter.Pass{}, 9, 9)
	none(filter.Pass{}, 0, 0)
}
