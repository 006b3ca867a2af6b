package tabs_test

import (
	"math"
	"slices"
	"testing"

	"phosphor/api"
	"phosphor/tabs"
)

// wrong are counts of columns that may not be.
var wrong = []int{math.MinInt, math.MinInt32, -1 << 32, -1001, -8, -1, 0, 1001, 1008, 1024, 1 << 16, math.MaxInt32, 1 << 32, 1<<32 + 80, math.MaxInt}

func TestP1501New(t *testing.T) {
	for cols := 1; cols <= api.MaxRows; cols++ {
		both(t, cols).stopsAlike(t, "new")
	}
	for _, c := range []struct {
		cols int
		all  []int
	}{
		{1, nil}, {7, nil}, {8, nil}, {9, []int{8}}, {16, []int{8}}, {17, []int{8, 16}}, {25, []int{8, 16, 24}},
		{80, []int{8, 16, 24, 32, 40, 48, 56, 64, 72}},
	} {
		s, e := tabs.New(c.cols)
		if e != api.OK || !slices.Equal(s.All(), c.all) {
			t.Errorf("P1501: New(%d): %v; want %v", c.cols, s.All(), c.all)
		}
	}
	s, _ := tabs.New(1000)
	if all := s.All(); len(all) != 124 || all[123] != 992 {
		t.Errorf("P1501: New(1000): %v", all)
	}
	for _, cols := range wrong {
		if s, e := tabs.New(cols); s != nil || e != api.ErrArg {
			t.Errorf("P1501: New(%d): %v, %v; want arg", cols, s, e)
		}
	}
}

func TestP1501Set(t *testing.T) {
	for _, cols := range []int{1, 2, 8, 9, 20, 80, 999, 1000} {
		d := both(t, cols)
		for _, col := range append([]int{0, 0, 1, 7, 8, 9, cols - 2, cols - 1, cols, cols + 1}, far...) {
			d.set(t, col)
			d.stopsAlike(t, "set")
		}
		for col := range cols {
			d.set(t, col)
		}
		d.stopsAlike(t, "all set")
		d.alikeAtSome(t, "all set")
	}
	s, _ := tabs.New(20)
	if !s.Set(19) || !s.Set(19) || !s.Set(8) || s.Set(20) || s.Set(-1) || !slices.Equal(s.All(), []int{8, 16, 19}) {
		t.Errorf("P1501: Set: %v", s.All())
	}
}

func TestP1501Clear(t *testing.T) {
	for _, cols := range []int{1, 8, 9, 17, 80, 1000} {
		d := both(t, cols)
		for _, col := range append([]int{0, 8, 8, 9, 16, cols - 1, cols, cols + 1}, far...) {
			d.clear(t, col)
			d.stopsAlike(t, "cleared")
		}
		for col := range cols {
			d.clear(t, col)
		}
		d.stopsAlike(t, "all cleared")
	}
	s, _ := tabs.New(30)
	if s.Clear(0) || s.Clear(7) || !s.Clear(16) || s.Clear(16) || s.Clear(32) || s.Clear(-8) || !slices.Equal(s.All(), []int{8, 24}) {
		t.Errorf("P1501: Clear: %v", s.All())
	}
	if !s.Set(16) || !s.Clear(16) || s.Clear(16) {
		t.Error("P1501: Clear of one that was set again")
	}
}

func TestP1501None(t *testing.T) {
	for _, cols := range []int{1, 8, 9, 80, 1000} {
		d := both(t, cols)
		for range 2 {
			d.none()
			d.stopsAlike(t, "none")
			d.alikeAtSome(t, "none")
		}
		if d.s.Next(0, 1) != cols-1 || d.s.Back(cols-1, 1) != 0 || d.s.Clear(8) {
			t.Errorf("P1501: None of %d", cols)
		}
		d.set(t, cols/2)
		d.alikeAtSome(t, "one behind none")
	}
}

// alikeAtSome is as alike, of a few columns and counts alone.
func (d *pair) alikeAtSome(t *testing.T, what string) {
	t.Helper()
	cols := len(d.p)
	for _, col := range []int{-1, 0, 1, 7, 8, 9, 15, 16, cols / 2, cols - 9, cols - 8, cols - 2, cols - 1, cols, cols + 1} {
		for _, n := range []int{math.MinInt, -1, 0, 1, 2, 3, 10, 124, 125, 998, 999, 1000, 1001, math.MaxInt} {
			d.at(t, what, col, n)
		}
	}
}

func TestP1501NextAndBack(t *testing.T) {
	for _, cols := range []int{1, 2, 7, 8, 9, 10, 16, 17, 18, 24, 25, 40} {
		both(t, cols).alike(t, "new")
	}
	both(t, 1000).alikeAtSome(t, "new")
	s, _ := tabs.New(40)
	for _, c := range []struct{ col, n, next, back int }{
		{0, 1, 8, 0}, {0, 2, 16, 0}, {0, 4, 32, 0}, {0, 5, 39, 0}, {0, 100, 39, 0}, // of five there are but four
		{7, 1, 8, 0}, {8, 1, 16, 0}, {9, 1, 16, 8}, {16, 1, 24, 8}, {16, 2, 32, 0}, {17, 2, 32, 8}, // the column itself is neither behind nor ahead
		{31, 1, 32, 24}, {32, 1, 39, 24}, {38, 1, 39, 32}, {39, 1, 39, 32}, {39, 4, 39, 8}, {39, 5, 39, 0},
		{20, 0, 20, 20}, {20, -1, 20, 20}, {0, 0, 0, 0}, {39, -9, 39, 39}, {20, math.MinInt, 20, 20}, {20, math.MaxInt, 39, 0},
		{40, 1, 39, 39}, {41, 2, 39, 39}, {math.MaxInt, 1, 39, 39}, {-1, 1, 0, 0}, {-1, 3, 0, 0}, {math.MinInt, 1, 0, 0}, // no such column: the nearest, and no further
		{40, 0, 39, 39}, {-1, 0, 0, 0}, {100, -1, 39, 39}, {-100, -1, 0, 0},
	} {
		if next, back := s.Next(c.col, c.n), s.Back(c.col, c.n); next != c.next || back != c.back {
			t.Errorf("P1501: Next(%d, %d): %d; want %d; Back: %d; want %d", c.col, c.n, next, c.next, back, c.back)
		}
	}
}

// The first and the last column are where one comes anyway: a stop there counts as one.
func TestP1501StopsAtTheEnds(t *testing.T) {
	s, _ := tabs.New(12)
	s.Set(0)
	s.Set(11)
	for _, c := range [][4]int{{0, 1, 8, 0}, {0, 2, 11, 0}, {0, 3, 11, 0}, {11, 1, 11, 8}, {11, 2, 11, 0}, {11, 3, 11, 0}, {10, 1, 11, 8}, {1, 1, 8, 0}} {
		if next, back := s.Next(c[0], c[1]), s.Back(c[0], c[1]); next != c[2] || back != c[3] {
			t.Errorf("P1501: at the ends: %v: %d, %d", c, next, back)
		}
	}
	one, _ := tabs.New(1)
	for range 2 {
		if one.Next(0, 1) != 0 || one.Back(0, 1) != 0 || one.Next(5, 1) != 0 || one.Back(-5, 1) != 0 {
			t.Error("P1501: of one column")
		}
		one.Set(0)
	}
}

// All sets of stops of up to nine columns, each way they may be told.
func TestP1501AllSets(t *testing.T) {
	for cols := 1; cols <= 9; cols++ {
		for set := range 1 << cols {
			d := both(t, cols)
			d.none()
			for col := range cols {
				if set>>col&1 == 1 {
					d.set(t, col)
				}
			}
			d.alike(t, "a set")
		}
	}
}

func TestP1501Resize(t *testing.T) {
	s, _ := tabs.New(20)
	s.Set(3)
	s.Set(19)
	s.Clear(16)
	for _, c := range []struct {
		cols int
		all  []int
	}{
		{20, []int{3, 8, 19}},               // none is new: 16 is no stop again
		{24, []int{3, 8, 19}},               // of 20 to 23 eight divides none
		{25, []int{3, 8, 19, 24}},           // the bound
		{41, []int{3, 8, 19, 24, 32, 40}},   //
		{24, []int{3, 8, 19}},               // 24 is beyond
		{19, []int{3, 8}},                   // so is 19 now
		{17, []int{3, 8}},                   // 16 was there all the time
		{16, []int{3, 8}},                   //
		{20, []int{3, 8, 16}},               // now it is new; 19 does not come back
		{8, []int{3}},                       //
		{9, []int{3, 8}},                    //
		{1, nil},                            //
		{1, nil},                            //
		{30, []int{8, 16, 24}},              // 3 does not come back
		{4, nil},                            //
		{1000, newPlain(api.MaxRows).all()}, //
	} {
		if e := s.Resize(c.cols); e != api.OK || !slices.Equal(s.All(), c.all) {
			t.Errorf("P1501: Resize(%d): %v, %v; want %v", c.cols, e, s.All(), c.all)
		}
	}
	s.None()
	s.Resize(900)
	s.Resize(1000)
	if !slices.Equal(s.All(), []int{904, 912, 920, 928, 936, 944, 952, 960, 968, 976, 984, 992}) {
		t.Errorf("P1501: Resize behind None: %v", s.All())
	}
}

func TestP1501ResizeOfFirstColumn(t *testing.T) {
	s, _ := tabs.New(30)
	if s.Resize(1); len(s.All()) != 0 {
		t.Errorf("P1501: of one column: %v", s.All())
	}
	if s.Resize(9); !slices.Equal(s.All(), []int{8}) { // column 0 was there
		t.Errorf("P1501: column 0 is not new: %v", s.All())
	}
	s.Set(0)
	s.Resize(1)
	if s.Resize(17); !slices.Equal(s.All(), []int{0, 8, 16}) {
		t.Errorf("P1501: a stop at column 0 stays: %v", s.All())
	}
}

// How many columns there are is told by Set, Next and Back behind a Resize, too.
func TestP1501ResizeTellsColumns(t *testing.T) {
	for _, from := range []int{1, 7, 8, 9, 17, 40} {
		for _, to := range []int{1, 2, 7, 8, 9, 16, 17, 39, 40, 41} {
			d := both(t, from)
			d.set(t, 5)
			d.set(t, from-1)
			d.clear(t, 8)
			d.resize(t, to)
			d.alike(t, "resized")
			d.set(t, to)
			d.set(t, to-1)
			d.resize(t, from)
			d.alike(t, "resized, and back")
		}
	}
}

// P5: an error changes nothing.
func TestP1501ResizeWrong(t *testing.T) {
	d := both(t, 20)
	d.set(t, 3)
	d.clear(t, 8)
	for _, cols := range wrong {
		if e := d.s.Resize(cols); e != api.ErrArg {
			t.Errorf("P1501: Resize(%d): %v; want arg", cols, e)
		}
		d.alike(t, "resized wrongly")
		d.set(t, 19)
		d.set(t, 20)
		d.clear(t, 19)
	}
	d.resize(t, api.MaxRows)
	d.alikeAtSome(t, "resized")
	d.resize(t, 1)
	d.alike(t, "resized")
}

// Any calls in any order.
func TestP1501LongRuns(t *testing.T) {
	s := numbers(1501)
	for range 300 {
		d := both(t, 1+s.below(60))
		for range 60 {
			cols := len(d.p)
			switch s.below(12) {
			case 0:
				d.resize(t, 1+s.below(60))
			case 1:
				if s.below(4) == 0 {
					d.none()
				}
			case 2:
				d.set(t, far[s.below(len(far))])
			case 3:
				d.clear(t, far[s.below(len(far))])
			case 4, 5, 6:
				d.clear(t, s.below(cols+2)-1)
			default:
				d.set(t, s.below(cols+2)-1)
			}
			d.stopsAlike(t, "a long run")
			for range 10 {
				d.at(t, "a long run", s.below(cols+4)-2, s.below(12)-1)
			}
		}
		d.alike(t, "a long run")
	}
}

// P2: what All told is the caller's own, its spare room too, and stays as it was.
func TestP1501AllIsNew(t *testing.T) {
	d := both(t, 60)
	first, second := d.s.All(), d.s.All()
	for i := range first[:cap(first)] {
		first[:cap(first)][i] = 5
	}
	if !slices.Equal(second, d.p.all()) {
		t.Errorf("P1501: two answers share: %v", second)
	}
	d.alike(t, "an answer written over")
	d.clear(t, 8)
	d.set(t, 11)
	d.resize(t, 30)
	if !slices.Equal(second, newPlain(60).all()) {
		t.Errorf("P1501: an answer changed: %v", second)
	}
}

// P7: each has its own stops.
func TestP1501SeveralAtOnce(t *testing.T) {
	one, other := both(t, 40), both(t, 40)
	one.set(t, 5)
	one.clear(t, 8)
	other.alike(t, "the other")
	other.none()
	one.alike(t, "the one")
	other.resize(t, 90)
	one.resize(t, 10)
	one.alike(t, "the one, resized")
	other.alike(t, "the other, resized")
}

// P3: the order in which a map is gone through is not to be seen.
func TestP1501TheSameAgain(t *testing.T) {
	for range 50 {
		d := both(t, 1000)
		d.set(t, 999)
		d.set(t, 0)
		d.clear(t, 504)
		d.stopsAlike(t, "again")
		d.resize(t, 500)
		d.stopsAlike(t, "again, resized")
	}
}

// P1: stops that New did not make have no column till Resize.
func TestP1501Zero(t *testing.T) {
	var s tabs.Stops
	for _, col := range append([]int{0, 1, 8}, far...) {
		if s.Set(col) || s.Clear(col) || s.Next(col, 1) != 0 || s.Back(col, 1) != 0 || s.Next(col, 0) != 0 || s.Back(col, -1) != 0 {
			t.Errorf("P1501: column %d of none", col)
		}
	}
	s.None()
	if len(s.All()) != 0 || s.Resize(0) != api.ErrArg || s.Resize(20) != api.OK {
		t.Error("P1501: no columns")
	}
	if !slices.Equal(s.All(), []int{0, 8, 16}) || !s.Set(19) || s.Set(20) { // here column 0 is new, too
		t.Errorf("P1501: of no columns, resized: %v", s.All())
	}
}
