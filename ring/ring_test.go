package ring_test

import (
	"errors"
	"math"
	"runtime"
	"slices"
	"testing"
	"weak"

	"phosphor/api"
	"phosphor/ring"
)

func TestP1401New(t *testing.T) {
	for _, most := range []int{0, 1, 2, 3, 1000, 1<<16 - 1, 1 << 16} {
		d := both[string](t, most)
		alike(t, "new", d.r, d.p)
		if s, is := d.r.Pop(); s != "" || is {
			t.Errorf("P1401: Pop of nothing: %q, %v", s, is)
		}
		d.r.Clear()
		alike(t, "new, cleared", d.r, d.p)
	}
	for _, most := range []int{math.MinInt, math.MinInt32, -1 << 32, -1 << 16, -2, -1, 1<<16 + 1, 1 << 17, 1 << 31, 1 << 32, 1<<32 + 1, math.MaxInt} {
		if r, e := ring.New[string](most); r != nil || e != api.ErrArg {
			t.Errorf("P1401: New(%d): %v, %v; want arg", most, r, e)
		}
	}
}

// All that may be done with small rings, and all that they tell behind each call.
func TestP1401AllShortRuns(t *testing.T) {
	const calls = 8
	runs := 1
	for range calls {
		runs *= 3
	}
	for most := range 5 {
		for run := range runs {
			d := both[int](t, most)
			for i, left := 1, run; i <= calls; i, left = i+1, left/3 {
				switch left % 3 {
				case 0:
					d.push(t, i)
				case 1:
					d.pop(t)
				case 2:
					d.clear()
				}
			}
			alike(t, "a short run", d.r, d.p)
		}
	}
}

// The same, with more pushed than taken away, so that rings are full most of the time.
func TestP1401PushesAndPops(t *testing.T) {
	for most := range 7 {
		for run := range 1 << 13 {
			d := both[int](t, most)
			for i := range 13 {
				if run>>i&1 == 0 {
					d.push(t, i+1)
				} else if i%2 == 0 {
					d.pop(t)
				} else {
					d.push(t, -i)
					d.push(t, -i-100)
				}
			}
			alike(t, "pushes and pops", d.r, d.p)
		}
	}
}

func TestP1401Examples(t *testing.T) {
	r, _ := ring.New[string](3)
	for _, s := range []string{"a", "b", "c"} {
		if out, is := r.Push(s); out != "" || is {
			t.Errorf("P1401: Push(%s): %q, %v", s, out, is)
		}
	}
	for _, c := range [][2]string{{"d", "a"}, {"e", "b"}, {"f", "c"}, {"g", "d"}} {
		if out, is := r.Push(c[0]); out != c[1] || !is {
			t.Errorf("P1401: Push(%s): %q, %v; want %s", c[0], out, is, c[1])
		}
	}
	if got := collect(r.All()); !slices.Equal(got, []told[string]{{4, "e"}, {5, "f"}, {6, "g"}}) || r.Gone() != 4 || r.Len() != 3 {
		t.Errorf("P1401: %v", got)
	}
	if s, is := r.Pop(); s != "g" || !is || r.Gone() != 4 || r.Len() != 2 {
		t.Errorf("P1401: Pop: %q, %v, Gone %d", s, is, r.Gone())
	}
	if s, is := r.Push("h"); s != "" || is || r.Gone() != 4 { // there was room again; its number is the one's that was taken away
		t.Errorf("P1401: Push(h): %q, %v", s, is)
	}
	if got := collect(r.All()); !slices.Equal(got, []told[string]{{4, "e"}, {5, "f"}, {6, "h"}}) {
		t.Errorf("P1401: %v", got)
	}
	r.Clear()
	if r.Gone() != 7 || r.Len() != 0 || len(collect(r.All())) != 0 {
		t.Errorf("P1401: Clear: Gone %d, Len %d", r.Gone(), r.Len())
	}
	r.Clear()
	r.Push("i")
	if got := collect(r.All()); !slices.Equal(got, []told[string]{{7, "i"}}) {
		t.Errorf("P1401: behind Clear: %v", got)
	}
}

func TestP1401MostNone(t *testing.T) {
	r, _ := ring.New[string](0)
	for i, s := range []string{"a", "", "c"} {
		if out, is := r.Push(s); out != s || !is || r.Len() != 0 || r.Gone() != int64(i+1) {
			t.Errorf("P1401: Push(%q), most 0: %q, %v, Gone %d", s, out, is, r.Gone())
		}
		if out, is := r.At(0); out != "" || is {
			t.Errorf("P1401: At(0), most 0: %q, %v", out, is)
		}
	}
	r.Clear()
	if out, is := r.Pop(); out != "" || is || r.Gone() != 3 || len(collect(r.All())) != 0 {
		t.Errorf("P1401: Pop, most 0: %q, %v, Gone %d", out, is, r.Gone())
	}
}

// Long runs, with tides of pushes and of pops, so that a ring goes round often, and has its first one anywhere.
func TestP1401LongRuns(t *testing.T) {
	s := numbers(1401)
	for most := range 70 {
		for range 10 {
			d := both[int](t, most)
			tide := 50
			for i := range 600 {
				if i%40 == 0 {
					tide = 10 + s.below(85)
				}
				switch {
				case s.below(150) == 0:
					d.clear()
				case s.below(100) < tide:
					d.push(t, i+1)
				default:
					d.pop(t)
				}
				if i%7 == 0 {
					alike(t, "a long run", d.r, d.p)
				}
			}
			alike(t, "a long run", d.r, d.p)
		}
	}
}

func TestP1401AtTheBound(t *testing.T) {
	for _, most := range []int{999, 1<<16 - 1, 1 << 16} {
		d := both[int](t, most)
		for i := range most {
			d.push(t, i+1)
		}
		alike(t, "full", d.r, d.p)
		for i := range 100 {
			d.push(t, -i)
		}
		alike(t, "gone round", d.r, d.p)
		for range 300 {
			d.pop(t)
		}
		for i := range 301 {
			d.push(t, 1<<20+i)
		}
		alike(t, "full again", d.r, d.p)
		for i := range 2*most + 3 {
			d.push(t, 1<<21+i)
		}
		alike(t, "gone round twice", d.r, d.p)
		d.clear()
		d.push(t, 5)
		alike(t, "cleared", d.r, d.p)
	}
}

// A sequence goes over what was there then, whatever is done with the ring, and however often.
func TestP1401AllStays(t *testing.T) {
	changes := []func(d pair[int]){
		func(d pair[int]) { d.r.Pop(); d.p.pop() },
		func(d pair[int]) { d.r.Push(-1); d.p.push(-1) },
		func(d pair[int]) { d.clear() },
		func(d pair[int]) { d.r.Pop(); d.p.pop(); d.r.Push(-2); d.p.push(-2) },
		func(d pair[int]) { d.clear(); d.r.Push(-3); d.p.push(-3) },
	}
	for most := range 7 {
		for count := range 16 {
			for c, change := range changes {
				d := both[int](t, most)
				for i := range count {
					d.push(t, i+1)
				}
				seq, want := d.r.All(), d.p.all()
				for range 12 {
					change(d)
					if got := collect(seq); !slices.Equal(got, want) {
						t.Fatalf("P1401: most %d, %d pushed, change %d: All %v; want %v", most, count, c, got, want)
					}
					alike(t, "changed", d.r, d.p)
				}
			}
		}
	}
}

func TestP1401AllLeftEarly(t *testing.T) {
	d := both[int](t, 5)
	for i := range 13 {
		d.push(t, i*i)
	}
	seq, want := d.r.All(), d.p.all()
	for stop := 1; stop <= 5; stop++ {
		var got []told[int]
		for n, v := range seq {
			got = append(got, told[int]{n, v})
			if len(got) == stop {
				break
			}
		}
		if !slices.Equal(got, want[:stop]) || !slices.Equal(collect(seq), want) {
			t.Errorf("P1401: left behind %d: %v; want %v", stop, got, want[:stop])
		}
		calls := 0
		seq(func(int64, int) bool { calls++; return calls < stop })
		if calls != stop {
			t.Errorf("P1401: left behind %d: it told %d", stop, calls)
		}
	}
	var got []told[int]
	for n, v := range seq { // one within the other
		for m, w := range seq {
			got = append(got, told[int]{n*100 + m, v*1000 + w})
		}
	}
	if len(got) != 25 || got[7] != (told[int]{want[1].n*100 + want[2].n, want[1].t*1000 + want[2].t}) {
		t.Errorf("P1401: one within the other: %v", got)
	}
}

// What is done with the ring while it is ranged over is not seen there.
func TestP1401AllWhileTheRingChanges(t *testing.T) {
	for most := 1; most < 6; most++ {
		for what := range 3 {
			d := both[int](t, most)
			for i := range 8 {
				d.push(t, i)
			}
			want := d.p.all()
			var got []told[int]
			for n, v := range d.r.All() {
				got = append(got, told[int]{n, v})
				switch what {
				case 0:
					d.push(t, -v)
				case 1:
					d.pop(t)
				case 2:
					d.clear()
				}
			}
			if !slices.Equal(got, want) {
				t.Errorf("P1401: most %d: %v; want %v", most, got, want)
			}
			alike(t, "changed while it was ranged over", d.r, d.p)
		}
	}
}

// Each sequence has its own: those of one ring at several times, and those of several rings.
func TestP1401SeveralAtOnce(t *testing.T) {
	one, other := both[int](t, 3), both[int](t, 4)
	var seqs []func(func(int64, int) bool)
	var want [][]told[int]
	for i := range 12 {
		one.push(t, i)
		other.push(t, 100+i)
		if i%5 == 4 {
			other.pop(t)
		}
		seqs = append(seqs, one.r.All(), other.r.All())
		want = append(want, one.p.all(), other.p.all())
		alike(t, "the one", one.r, one.p)
		alike(t, "the other", other.r, other.p)
	}
	one.clear()
	alike(t, "the other, the one cleared", other.r, other.p)
	for i, seq := range seqs {
		if got := collect(seq); !slices.Equal(got, want[i]) {
			t.Errorf("P1401: sequence %d: %v; want %v", i, got, want[i])
		}
	}
}

// run does the same calls with a ring of any type, and tells what they answer.
func run[T comparable](t *testing.T, most int, vs ...T) {
	t.Helper()
	d := both[T](t, most)
	for range 3 {
		for i, v := range vs {
			d.push(t, v)
			if i%4 == 3 {
				d.pop(t)
			}
			alike(t, "of a type", d.r, d.p)
		}
		for range vs {
			d.pop(t)
		}
	}
}

func TestP1401OfAnyType(t *testing.T) {
	type pairOf struct {
		s string
		n [2]int8
	}
	x, y := 1, 2
	some := errors.New("some")
	for most := range 4 {
		run(t, most, "a", "", "b", "c", "\xFF")
		run(t, most, true, false, true, true, false)
		run(t, most, 1.5, 0, math.Inf(1), -0.25)
		run(t, most, &x, nil, &y, &x, nil)
		run(t, most, some, nil, some, nil, some)
		run(t, most, any("a"), nil, any(3), any(api.ErrArg), nil)
		run(t, most, struct{}{}, struct{}{}, struct{}{})
		run(t, most, [3]int{1}, [3]int{}, [3]int{2, 3}, [3]int{0, 0, 4})
		run(t, most, pairOf{"a", [2]int8{1}}, pairOf{}, pairOf{"", [2]int8{0, -1}}, pairOf{"b", [2]int8{}})
		run(t, most, api.Cell{R: 'a', A: api.Attr{Flags: api.Bold}}, api.Cell{}, api.Cell{Kind: api.Head})
	}
}

// What cannot be compared may stand in a ring, too.
func TestP1401OfLists(t *testing.T) {
	r, _ := ring.New[[]byte](2)
	for _, s := range []string{"a", "bc", "d"} {
		r.Push([]byte(s))
	}
	if b, is := r.At(0); string(b) != "bc" || !is {
		t.Errorf("P1401: %q", b)
	}
	if b, is := r.At(2); b != nil || is {
		t.Errorf("P1401: %q", b)
	}
	f, _ := ring.New[func() int](1)
	f.Push(func() int { return 3 })
	if g, is := f.Push(func() int { return 4 }); !is || g() != 3 {
		t.Error("P1401: of functions")
	}
	if g, is := f.Pop(); !is || g() != 4 {
		t.Error("P1401: of functions")
	}
	if g, is := f.Pop(); is || g != nil {
		t.Error("P1401: of functions: one more")
	}
	rings, _ := ring.New[*ring.Ring[int]](2)
	inner, _ := ring.New[int](1)
	rings.Push(inner)
	inner.Push(7)
	if q, _ := rings.At(0); q != inner || q.Len() != 1 {
		t.Error("P1401: of rings")
	}
}

// A ring that New did not make is as one that may have none.
func TestP1401Zero(t *testing.T) {
	var r ring.Ring[int]
	if v, is := r.Pop(); v != 0 || is || r.Len() != 0 || r.Gone() != 0 {
		t.Error("P1401: Pop of a zero ring")
	}
	if v, is := r.At(0); v != 0 || is || len(collect(r.All())) != 0 {
		t.Error("P1401: At of a zero ring")
	}
	if v, is := r.Push(3); v != 3 || !is || r.Len() != 0 || r.Gone() != 1 {
		t.Error("P1401: Push of a zero ring")
	}
	r.Clear()
	if r.Gone() != 1 {
		t.Error("P1401: Clear of a zero ring")
	}
}

// What is not there any more is not kept either.
func TestP1401NothingIsKept(t *testing.T) {
	type big [64]int
	for name, take := range map[string]func(r *ring.Ring[*big]){
		"Pop":   func(r *ring.Ring[*big]) { r.Pop(); r.Pop(); r.Pop() },
		"Push":  func(r *ring.Ring[*big]) { r.Push(nil); r.Push(nil); r.Push(nil) },
		"Clear": func(r *ring.Ring[*big]) { r.Clear() },
	} {
		r, _ := ring.New[*big](3)
		var seen []weak.Pointer[big]
		for range 5 {
			b := new(big)
			seen = append(seen, weak.Make(b))
			r.Push(b)
		}
		runtime.GC()
		for i, w := range seen {
			if there := w.Value() != nil; there != (i >= 2) {
				t.Errorf("P1401: %s: one pushed as number %d is kept: %v", name, i, there)
			}
		}
		take(r)
		runtime.GC()
		for i, w := range seen {
			if w.Value() != nil {
				t.Errorf("P1401: %s: number %d is kept", name, i)
			}
		}
		runtime.KeepAlive(r)
	}
}

// A ring of few does not take room for as many as it may have.
func TestP1401SmallRings(t *testing.T) {
	var before, behind runtime.MemStats
	kept := make([]*ring.Ring[[16]int], 1000)
	runtime.ReadMemStats(&before)
	for i := range kept {
		kept[i], _ = ring.New[[16]int](1 << 16)
		kept[i].Push([16]int{i})
	}
	runtime.ReadMemStats(&behind)
	if n := behind.TotalAlloc - before.TotalAlloc; n > 1<<23 {
		t.Errorf("a thousand rings of one take %d bytes", n)
	}
	runtime.KeepAlive(kept)
}
