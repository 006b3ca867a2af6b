package ring_test

import (
	"math"
	"slices"
	"testing"

	"phosphor/ring"
)

// plain is a ring in the plainest way: all that were ever pushed behind one another, and where those that are there begin.
type plain[T any] struct {
	most int
	list []T
	from int
	gone int64
}

func (p *plain[T]) there() []T { return p.list[p.from:] }

func (p *plain[T]) push(t T) (out T, is bool) {
	p.list = append(p.list, t)
	if len(p.there()) <= p.most {
		return out, false
	}
	out = p.list[p.from]
	p.from++
	p.gone++
	return out, true
}

func (p *plain[T]) pop() (out T, is bool) {
	if len(p.there()) == 0 {
		return out, false
	}
	out = p.list[len(p.list)-1]
	p.list = p.list[:len(p.list)-1]
	return out, true
}

func (p *plain[T]) clear() {
	for range p.there() {
		p.gone++
	}
	p.from = len(p.list)
}

// told is one that a sequence tells.
type told[T any] struct {
	n int64
	t T
}

// all is what All has to tell.
func (p *plain[T]) all() []told[T] {
	var out []told[T]
	for i, t := range p.there() {
		out = append(out, told[T]{p.gone + int64(i), t})
	}
	return out
}

// collect is what a sequence tells.
func collect[T any](seq func(func(int64, T) bool)) []told[T] {
	var out []told[T]
	for n, t := range seq {
		out = append(out, told[T]{n, t})
	}
	return out
}

// far are places far from any ring's.
var far = []int{
	math.MinInt, math.MinInt + 1, math.MinInt32, -1 << 32, -1<<16 - 1, -1 << 16, -5, -2, -1,
	1<<16 - 1, 1 << 16, 1<<16 + 1, 1 << 31, 1 << 32, 1<<32 + 1, math.MaxInt - 1, math.MaxInt,
}

// alike holds all that a ring tells against the model.
func alike[T comparable](t *testing.T, what string, r *ring.Ring[T], p *plain[T]) {
	t.Helper()
	there := p.there()
	if r.Len() != len(there) || r.Gone() != p.gone {
		t.Fatalf("P1401: %s: Len %d, Gone %d; want %d, %d", what, r.Len(), r.Gone(), len(there), p.gone)
	}
	for i, want := range there {
		if got, is := r.At(i); got != want || !is {
			t.Fatalf("P1401: %s: At(%d): %v, %v; want %v", what, i, got, is, want)
		}
	}
	var none T
	for _, i := range append([]int{len(there), len(there) + 1, p.most, p.most + 1}, far...) {
		if i >= 0 && i < len(there) {
			continue
		}
		if got, is := r.At(i); got != none || is {
			t.Fatalf("P1401: %s: At(%d) of %d: %v, %v", what, i, len(there), got, is)
		}
	}
	if got := collect(r.All()); !slices.Equal(got, p.all()) {
		t.Fatalf("P1401: %s: All %v; want %v", what, got, p.all())
	}
}

// pair is a ring and its model, on which each call is done together.
type pair[T comparable] struct {
	r *ring.Ring[T]
	p *plain[T]
}

func (d pair[T]) push(t *testing.T, v T) {
	t.Helper()
	got, is := d.r.Push(v)
	if want, more := d.p.push(v); got != want || is != more {
		t.Fatalf("P1401: Push(%v), most %d: %v, %v; want %v, %v", v, d.p.most, got, is, want, more)
	}
}

func (d pair[T]) pop(t *testing.T) {
	t.Helper()
	got, is := d.r.Pop()
	if want, was := d.p.pop(); got != want || is != was {
		t.Fatalf("P1401: Pop, most %d: %v, %v; want %v, %v", d.p.most, got, is, want, was)
	}
}

func (d pair[T]) clear() {
	d.r.Clear()
	d.p.clear()
}

// both makes a ring, and its model.
func both[T comparable](t *testing.T, most int) pair[T] {
	t.Helper()
	r, e := ring.New[T](most)
	if e != 0 || r == nil {
		t.Fatalf("P1401: New(%d): %v, %v", most, r, e)
	}
	return pair[T]{r, &plain[T]{most: most}}
}

// numbers is a short rule for numbers that look like any.
type numbers uint64

func (s *numbers) below(n int) int {
	*s = *s*6364136223846793005 + 1442695040888963407
	return int(uint32(*s>>32) % uint32(n))
}
