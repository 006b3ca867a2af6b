package tabs_test

import (
	"math"
	"slices"
	"testing"

	"phosphor/api"
	"phosphor/tabs"
)

// plain is stops in the plainest way: of each column whether it is one.
type plain []bool

func newPlain(cols int) plain {
	p := make(plain, cols)
	for col := 8; col < cols; col += 8 {
		p[col] = true
	}
	return p
}

func (p plain) is(col int) bool { return col >= 0 && col < len(p) }

func (p plain) set(col int) bool {
	if p.is(col) {
		p[col] = true
	}
	return p.is(col)
}

func (p plain) clear(col int) bool {
	was := p.is(col) && p[col]
	if was {
		p[col] = false
	}
	return was
}

func (p plain) none() {
	for col := range p {
		p[col] = false
	}
}

func (p plain) all() []int {
	var out []int
	for col, is := range p {
		if is {
			out = append(out, col)
		}
	}
	return out
}

// stays is where Next and Back are of what they cannot do.
func (p plain) stays(col int) int {
	if col < 0 {
		return 0
	}
	if col >= len(p) {
		return len(p) - 1
	}
	return col
}

func (p plain) next(col, n int) int {
	if n < 1 || !p.is(col) {
		return p.stays(col)
	}
	behind := slices.DeleteFunc(p.all(), func(c int) bool { return c <= col })
	if n > len(behind) {
		return len(p) - 1
	}
	return behind[n-1]
}

func (p plain) back(col, n int) int {
	if n < 1 || !p.is(col) {
		return p.stays(col)
	}
	ahead := slices.DeleteFunc(p.all(), func(c int) bool { return c >= col })
	if n > len(ahead) {
		return 0
	}
	return ahead[len(ahead)-n]
}

func (p plain) resize(cols int) plain {
	out := newPlain(cols)
	copy(out, p)
	return out
}

// far are numbers far from any column and any count.
var far = []int{
	math.MinInt, math.MinInt + 1, math.MinInt32, -1 << 32, -1000, -2, -1,
	1000, 1001, 1024, 1 << 16, math.MaxInt32, 1 << 32, 1<<32 + 1, 1<<32 + 8, math.MaxInt - 1, math.MaxInt,
}

// pair is stops and their model, on which each call is done together.
type pair struct {
	s *tabs.Stops
	p plain
}

func both(t *testing.T, cols int) *pair {
	t.Helper()
	s, e := tabs.New(cols)
	if s == nil || e != api.OK {
		t.Fatalf("P1501: New(%d): %v, %v", cols, s, e)
	}
	return &pair{s, newPlain(cols)}
}

func (d *pair) set(t *testing.T, col int) {
	t.Helper()
	if got, want := d.s.Set(col), d.p.set(col); got != want {
		t.Fatalf("P1501: Set(%d) of %d: %v", col, len(d.p), got)
	}
}

func (d *pair) clear(t *testing.T, col int) {
	t.Helper()
	if got, want := d.s.Clear(col), d.p.clear(col); got != want {
		t.Fatalf("P1501: Clear(%d) of %d: %v", col, len(d.p), got)
	}
}

func (d *pair) none() {
	d.s.None()
	d.p.none()
}

func (d *pair) resize(t *testing.T, cols int) {
	t.Helper()
	if e := d.s.Resize(cols); e != api.OK {
		t.Fatalf("P1501: Resize(%d): %v", cols, e)
	}
	d.p = d.p.resize(cols)
}

// stopsAlike holds All against the model.
func (d *pair) stopsAlike(t *testing.T, what string) {
	t.Helper()
	if got, want := d.s.All(), d.p.all(); !slices.Equal(got, want) {
		t.Fatalf("P1501: %s: All %v; want %v", what, got, want)
	}
}

// at holds Next and Back of one column against the model.
func (d *pair) at(t *testing.T, what string, col, n int) {
	t.Helper()
	if got, want := d.s.Next(col, n), d.p.next(col, n); got != want {
		t.Fatalf("P1501: %s: %v of %d: Next(%d, %d): %d; want %d", what, d.p.all(), len(d.p), col, n, got, want)
	}
	if got, want := d.s.Back(col, n), d.p.back(col, n); got != want {
		t.Fatalf("P1501: %s: %v of %d: Back(%d, %d): %d; want %d", what, d.p.all(), len(d.p), col, n, got, want)
	}
}

// alike holds all that stops tell against the model, and that telling it changes nothing.
func (d *pair) alike(t *testing.T, what string) {
	t.Helper()
	d.stopsAlike(t, what)
	most := len(d.p.all()) + 2
	for col := -2; col < len(d.p)+2; col++ {
		for n := -1; n <= most; n++ {
			d.at(t, what, col, n)
		}
	}
	for _, f := range far {
		for col := -1; col <= len(d.p); col++ {
			d.at(t, what, col, f)
		}
		for n := range 3 {
			d.at(t, what, f, n)
			d.at(t, what, f, f)
		}
	}
	d.stopsAlike(t, what)
}

// numbers is a short rule for numbers that look like any.
type numbers uint64

func (s *numbers) below(n int) int {
	*s = *s*6364136223846793005 + 1442695040888963407
	return int(uint32(*s>>32) % uint32(n))
}
