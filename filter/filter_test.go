package filter_test

import (
	"bytes"
	"math"
	"slices"
	"strconv"
	"strings"
	"testing"

	"phosphor/api"
	"phosphor/filter"
)

// numbers is a short rule for numbers that look like any.
type numbers uint64

func (s *numbers) below(n int) int {
	*s = *s*6364136223846793005 + 1442695040888963407
	return int(uint32(*s>>32) % uint32(n))
}

// bytes are any, with spare room behind them, more often low and high ones: sums of these come near the edges.
func (s *numbers) bytes(n int) []byte {
	b := make([]byte, n+5)
	for i := range b {
		b[i] = byte(s.below(256))
		switch s.below(6) {
		case 0:
			b[i] &= 3
		case 1:
			b[i] |= 252
		}
	}
	return b[:n]
}

// all is a slice with its spare room.
func all(b []byte) []byte { return b[:cap(b)] }

// paeth is PNG 9.4, word by word.
func paeth(a, b, c int) int {
	p := a + b - c
	pa, pb, pc := abs(p-a), abs(p-b), abs(p-c)
	if pa <= pb && pa <= pc {
		return a
	} else if pb <= pc {
		return b
	}
	return c
}

func abs(n int) int {
	if n < 0 {
		return -n
	}
	return n
}

// taken is what PNG 9.2 takes from byte i of a row without a filter.
func taken(kind int, row, ahead []byte, i, step int) int {
	pick := func(b []byte, i int) int {
		if i < 0 || len(b) == 0 {
			return 0
		}
		return int(b[i])
	}
	a, b, c := pick(row, i-step), pick(ahead, i), pick(ahead, i-step)
	return [5]int{0, a, b, (a + b) >> 1, paeth(a, b, c)}[kind]
}

// filtered is what Do has to tell.
func filtered(kind int, row, ahead []byte, step int) []byte {
	out := make([]byte, len(row))
	for i := range row {
		out[i] = byte((int(row[i]) + 256 - taken(kind, row, ahead, i, step)) % 256)
	}
	return out
}

// does holds Do of a row, and Undo of that, against what they have to tell; nothing that they are handed may change.
func does(t *testing.T, kind int, row, ahead []byte, step int) {
	t.Helper()
	want := filtered(kind, row, ahead, step)
	kept, keptAhead := slices.Clone(all(row)), slices.Clone(all(ahead))
	got, e := filter.Do(kind, row, ahead, step)
	if e != api.OK || !bytes.Equal(got, want) {
		t.Errorf("P801: Do(%d, %v, %v, %d): %v, %v; want %v", kind, row, ahead, step, got, e, want)
	}
	back, e := filter.Undo(kind, want, ahead, step)
	if e != api.OK || !bytes.Equal(back, row) {
		t.Errorf("P801: Undo(%d, %v, %v, %d): %v, %v; want %v", kind, want, ahead, step, back, e, row)
	}
	if !bytes.Equal(all(row), kept) || !bytes.Equal(all(ahead), keptAhead) || !bytes.Equal(want, filtered(kind, row, ahead, step)) {
		t.Errorf("P2: %d, %d: what was handed in is changed", kind, step)
	}
}

func TestP801ByHand(t *testing.T) {
	row, ahead := []byte{10, 20, 30, 200, 255, 0, 7}, []byte{1, 255, 40, 100, 255, 9, 8}
	for _, c := range []struct {
		kind, step int
		ahead      []byte
		want       []byte
	}{
		{0, 1, ahead, []byte{10, 20, 30, 200, 255, 0, 7}},
		{0, 3, nil, []byte{10, 20, 30, 200, 255, 0, 7}},
		{1, 1, ahead, []byte{10, 10, 10, 170, 55, 1, 7}},
		{1, 3, ahead, []byte{10, 20, 30, 190, 235, 226, 63}},
		{1, 3, nil, []byte{10, 20, 30, 190, 235, 226, 63}},
		{1, 8, ahead, []byte{10, 20, 30, 200, 255, 0, 7}},
		{2, 1, ahead, []byte{9, 21, 246, 100, 0, 247, 255}},
		{2, 8, ahead, []byte{9, 21, 246, 100, 0, 247, 255}},
		{2, 1, nil, []byte{10, 20, 30, 200, 255, 0, 7}},
		{3, 1, ahead, []byte{10, 144, 0, 135, 28, 124, 3}},
		{3, 3, ahead, []byte{10, 149, 10, 145, 118, 237, 159}},
		{3, 3, nil, []byte{10, 20, 30, 195, 245, 241, 163}},
		{4, 1, ahead, []byte{9, 21, 10, 100, 0, 247, 7}},
		{4, 3, ahead, []byte{9, 21, 246, 100, 235, 247, 163}},
		{4, 3, nil, []byte{10, 20, 30, 190, 235, 226, 63}},
	} {
		got, e := filter.Do(c.kind, row, c.ahead, c.step)
		if e != api.OK || !bytes.Equal(got, c.want) {
			t.Errorf("P801: Do(%d, .., %v, %d): %v, %v; want %v", c.kind, c.ahead, c.step, got, e, c.want)
		}
		got, e = filter.Undo(c.kind, c.want, c.ahead, c.step)
		if e != api.OK || !bytes.Equal(got, row) {
			t.Errorf("P801: Undo(%d, %v, %v, %d): %v, %v; want %v", c.kind, c.want, c.ahead, c.step, got, e, row)
		}
	}
}

func TestP801AnyRows(t *testing.T) {
	s := numbers(1)
	for kind := range 5 {
		for step := 1; step <= 8; step++ {
			for n := range 40 {
				does(t, kind, s.bytes(n), nil, step)
				does(t, kind, s.bytes(n), s.bytes(5)[:0], step) // its spare room is no row
				does(t, kind, s.bytes(n), s.bytes(n), step)
				does(t, kind, s.bytes(n), make([]byte, n), step)
			}
			does(t, kind, s.bytes(3000), s.bytes(3000), step)
		}
	}
}

// What is around the second of two bytes is all that a filter can look at, so these are all cases of the average.
func TestP801TheAverageOfAll(t *testing.T) {
	for a := range 256 {
		for b := range 256 {
			got, e := filter.Undo(3, []byte{byte(a), 0}, []byte{0, byte(b)}, 1)
			if e != api.OK || len(got) != 2 || int(got[0]) != a || int(got[1]) != (a+b)/2 {
				t.Fatalf("P801: Undo(3) of %d, 0 below %d: %v, %v", a, b, got, e)
			}
		}
	}
}

func TestP801BytesBeyondARow(t *testing.T) {
	for kind := range 5 {
		for step := 1; step <= 8; step++ {
			for _, ahead := range [][]byte{nil, {}} {
				for _, call := range []func(int, []byte, []byte, int) ([]byte, api.Errno){filter.Do, filter.Undo} {
					if out, e := call(kind, nil, ahead, step); len(out) != 0 || e != api.OK {
						t.Errorf("P801: %d, %d: of no bytes: %v, %v", kind, step, out, e)
					}
				}
			}
			row := make([]byte, step) // to the left of its bytes, and above that, stands nothing
			for i := range row {
				row[i] = byte(100 + i)
			}
			out, e := filter.Undo(kind, row, bytes.Repeat([]byte{8}, step), step)
			for i := range out {
				want := row[i] + [5]byte{0, 0, 8, 4, 8}[kind]
				if e != api.OK || out[i] != want {
					t.Errorf("P801: Undo(%d), %d: byte %d: %d, %v; want %d", kind, step, i, out[i], e, want)
				}
			}
		}
	}
}

func TestP801UndoneBothWays(t *testing.T) {
	s := numbers(2)
	for range 4000 {
		kind, step, n := s.below(5), 1+s.below(8), s.below(50)
		row, ahead := s.bytes(n), s.bytes(n)
		undone, e := filter.Undo(kind, row, ahead, step)
		if e != api.OK {
			t.Fatalf("P801: Undo(%d, %d): %v", kind, step, e)
		}
		done, e := filter.Do(kind, undone, ahead, step)
		if e != api.OK || !bytes.Equal(done, row) {
			t.Fatalf("P801: Do(%d, .., %d) of Undo of %v: %v, %v", kind, step, row, done, e)
		}
	}
}

func TestP801Faults(t *testing.T) {
	row := []byte{1, 2, 3, 4}
	lots := make([]byte, 16)
	for _, c := range []struct {
		kind, step int
		row, ahead []byte
		want       api.Errno
	}{
		{0, 1, row, lots[:4], api.OK}, {4, 8, row, lots[:4], api.OK}, {0, 8, row, nil, api.OK}, {4, 1, nil, nil, api.OK},
		{-1, 1, row, nil, api.ErrArg}, {5, 1, row, nil, api.ErrArg}, {5, 1, nil, nil, api.ErrArg}, {-1, 1, nil, nil, api.ErrArg},
		{math.MinInt, 1, row, nil, api.ErrArg}, {math.MaxInt, 1, row, nil, api.ErrArg}, {256, 1, row, nil, api.ErrArg},
		{1 << 32, 1, row, nil, api.ErrArg}, {260, 1, row, lots[:4], api.ErrArg},
		{0, 0, row, nil, api.ErrArg}, {0, 9, row, nil, api.ErrArg}, {4, 0, nil, nil, api.ErrArg}, {4, 9, nil, nil, api.ErrArg},
		{4, -1, row, lots[:4], api.ErrArg}, {1, math.MinInt, row, nil, api.ErrArg}, {1, math.MaxInt, row, nil, api.ErrArg},
		{2, 1<<32 + 1, row, nil, api.ErrArg},
		{0, 1, row, lots[:3], api.ErrArg}, {0, 1, row, lots[:5], api.ErrArg}, {2, 1, row, lots[:1], api.ErrArg},
		{4, 4, row, lots[:8], api.ErrArg}, {3, 2, nil, lots[:1], api.ErrArg}, {1, 1, row, lots[:16], api.ErrArg},
		{0, 1, nil, lots[:4], api.ErrArg}, {1, 1, row[:3], lots[:4], api.ErrArg}, {5, 0, row, lots[:3], api.ErrArg},
	} {
		for name, call := range map[string]func(int, []byte, []byte, int) ([]byte, api.Errno){"Do": filter.Do, "Undo": filter.Undo} {
			out, e := call(c.kind, c.row, c.ahead, c.step)
			if e != c.want {
				t.Errorf("P801: %s(%d, %v, %v, %d): %v; want %v", name, c.kind, c.row, c.ahead, c.step, e, c.want)
			}
			if e != api.OK && len(out) != 0 {
				t.Errorf("P4: %s(%d, %v, %v, %d): %v beside %v", name, c.kind, c.row, c.ahead, c.step, out, e)
			}
		}
	}
}

func TestP801Paeth(t *testing.T) {
	for _, c := range [][4]byte{ // a, b, c, and the one taken
		{0, 0, 0, 0}, {255, 255, 255, 255}, {255, 255, 0, 255}, {0, 0, 255, 0},
		{7, 0, 0, 7}, {0, 7, 0, 7}, {0, 0, 7, 0}, {255, 0, 0, 255}, {0, 255, 0, 255},
		{1, 2, 3, 1}, {10, 20, 10, 20}, {20, 10, 10, 20}, {5, 9, 7, 7}, {9, 5, 7, 7},
		{0, 10, 5, 5},                            // just c
		{0, 4, 1, 4}, {0, 3, 1, 3}, {0, 2, 1, 1}, // b is nearer than c, or as near
		{4, 0, 1, 4}, {3, 0, 1, 3}, // a likewise
		{8, 8, 6, 8}, {8, 6, 6, 8}, {2, 3, 200, 2}, // a ahead of the others
		{200, 100, 0, 200}, {100, 200, 0, 200}, {0, 255, 255, 0}, {255, 0, 255, 0},
	} {
		if got := filter.Paeth(c[0], c[1], c[2]); got != c[3] {
			t.Errorf("P801: Paeth(%d, %d, %d): %d; want %d", c[0], c[1], c[2], got, c[3])
		}
	}
}

func TestP801PaethOfAll(t *testing.T) {
	for a := range 256 {
		for b := range 256 {
			for c := range 256 {
				if got := filter.Paeth(byte(a), byte(b), byte(c)); int(got) != paeth(a, b, c) {
					t.Fatalf("P801: Paeth(%d, %d, %d): %d; want %d", a, b, c, got, paeth(a, b, c))
				}
			}
		}
	}
}

// depths are those that samples may have; most others near them, and far, may not be.
func depths() (right, wrong []int) {
	right = []int{1, 2, 4, 8, 16}
	for n := -20; n <= 70; n++ {
		if !slices.Contains(right, n) {
			wrong = append(wrong, n)
		}
	}
	return right, append(wrong, math.MinInt, math.MaxInt, 1<<32+8, 1<<62, -1<<62)
}

func TestP802Row(t *testing.T) {
	right, wrong := depths()
	for _, depth := range right {
		for samples := 1; samples <= 4; samples++ {
			for w := 1; w <= 16384; w++ {
				bits := w * samples * depth
				want := bits / 8
				if bits%8 > 0 {
					want++
				}
				if got := filter.Row(w, samples, depth); got != want {
					t.Fatalf("P802: Row(%d, %d, %d): %d; want %d", w, samples, depth, got, want)
				}
			}
			for _, w := range []int{0, -1, -8, 16385, 1 << 20, 1<<32 + 1, 1 << 62, math.MinInt, math.MaxInt} {
				if got := filter.Row(w, samples, depth); got != 0 {
					t.Errorf("P802: Row(%d, %d, %d): %d", w, samples, depth, got)
				}
			}
		}
		for _, samples := range []int{0, -1, 5, 8, 1<<32 + 1, math.MinInt, math.MaxInt} {
			if got := filter.Row(1, samples, depth); got != 0 {
				t.Errorf("P802: Row(1, %d, %d): %d", samples, depth, got)
			}
		}
	}
	for _, depth := range wrong {
		if got := filter.Row(8, 1, depth); got != 0 {
			t.Errorf("P802: Row(8, 1, %d): %d", depth, got)
		}
	}
	if filter.Row(1, 1, 1) != 1 || filter.Row(8, 1, 1) != 1 || filter.Row(9, 1, 1) != 2 || filter.Row(5, 3, 2) != 4 || filter.Row(16384, 4, 16) != 131072 {
		t.Error("P802: Row by hand")
	}
}

// read is Samples by a text of bits.
func read(row []byte, depth, n int) []int {
	var text strings.Builder
	for _, c := range row {
		text.WriteString(strconv.FormatUint(256+uint64(c), 2)[1:])
	}
	out := make([]int, n)
	for i := range out {
		v, _ := strconv.ParseUint(text.String()[i*depth:(i+1)*depth], 2, 64)
		out[i] = int(v)
	}
	return out
}

func TestP802SamplesByHand(t *testing.T) {
	row := []byte{0xB1, 0x0F, 0x80, 0x07}
	for _, c := range []struct {
		depth int
		want  []int
	}{
		{1, []int{1, 0, 1, 1, 0, 0, 0, 1, 0, 0, 0, 0, 1, 1, 1, 1, 1, 0, 0, 0, 0, 0, 0, 0, 0, 0, 0, 0, 0, 1, 1, 1}},
		{2, []int{2, 3, 0, 1, 0, 0, 3, 3, 2, 0, 0, 0, 0, 0, 1, 3}},
		{4, []int{11, 1, 0, 15, 8, 0, 0, 7}},
		{8, []int{177, 15, 128, 7}},
		{16, []int{45327, 32775}},
	} {
		for n := range len(c.want) + 1 {
			got, e := filter.Samples(row, c.depth, n)
			if e != api.OK || !slices.Equal(got, c.want[:n]) {
				t.Errorf("P802: Samples(%x, %d, %d): %v, %v; want %v", row, c.depth, n, got, e, c.want[:n])
			}
		}
	}
}

func TestP802SamplesOfAnyRows(t *testing.T) {
	s := numbers(3)
	right, _ := depths()
	for _, depth := range right {
		for size := range 12 {
			row := s.bytes(size)
			kept := slices.Clone(all(row))
			most := size * 8 / depth
			for n := range most + 40 {
				got, e := filter.Samples(row, depth, n)
				if n > most {
					if e != api.ErrShort || len(got) != 0 {
						t.Errorf("P802: Samples of %d bytes, %d, %d: %v, %v; want short", size, depth, n, got, e)
					}
					continue
				}
				if want := read(row, depth, n); e != api.OK || !slices.Equal(got, want) {
					t.Errorf("P802: Samples(%x, %d, %d): %v, %v; want %v", row, depth, n, got, e, want)
				}
			}
			if !bytes.Equal(all(row), kept) {
				t.Errorf("P2: Samples of depth %d changed the row", depth)
			}
		}
	}
}

func TestP802SamplesOfAllBytes(t *testing.T) {
	row := make([]byte, 512)
	for i := range 256 {
		row[2*i], row[2*i+1] = byte(i), byte(255-i)
	}
	right, _ := depths()
	for _, depth := range right {
		n := len(row) * 8 / depth
		if got, e := filter.Samples(row, depth, n); e != api.OK || !slices.Equal(got, read(row, depth, n)) {
			t.Errorf("P802: Samples of all bytes, depth %d: %v, %v", depth, got, e)
		}
	}
}

func TestP802SamplesFaults(t *testing.T) {
	right, wrong := depths()
	row := []byte{1, 2, 3}
	tells := func(row []byte, depth, n int, want api.Errno) {
		if got, e := filter.Samples(row, depth, n); e != want || len(got) != 0 {
			t.Errorf("P802: Samples(%v, %d, %d): %v, %v; want %v", row, depth, n, got, e, want)
		}
	}
	for _, depth := range right {
		for _, n := range []int{-1, -2, -8, math.MinInt, -1 << 32} {
			tells(row, depth, n, api.ErrArg)
			tells(nil, depth, n, api.ErrArg)
		}
		for _, n := range []int{25, 1 << 32, 1 << 60, 1 << 61, 1 << 62, math.MaxInt} { // some times depth are 0, or below it
			tells(row, depth, n, api.ErrShort)
		}
		tells(nil, depth, 0, api.OK)
		tells([]byte{}, depth, 0, api.OK)
		tells(row, depth, 0, api.OK)
		tells(nil, depth, 1, api.ErrShort)
	}
	for _, depth := range wrong {
		for _, n := range []int{0, 1, -1, 99, math.MaxInt} { // ahead of short
			tells(row, depth, n, api.ErrArg)
			tells(nil, depth, n, api.ErrArg)
		}
	}
	tells(row[:1], 8, 2, api.ErrShort) // spare room has no samples
	tells(row[:1], 16, 1, api.ErrShort)
	tells(row, 16, 2, api.ErrShort)
}

// Answers are new memory, their spare room too, and stay as they are.
func TestP2NewMemory(t *testing.T) {
	s := numbers(4)
	for kind := range 5 {
		row, ahead := s.bytes(12), s.bytes(12)
		kept, keptAhead := slices.Clone(all(row)), slices.Clone(all(ahead))
		done, _ := filter.Do(kind, row, ahead, 3)
		undone, _ := filter.Undo(kind, row, ahead, 3)
		want, wanted := slices.Clone(done), slices.Clone(undone)
		for _, b := range [][]byte{all(row), all(ahead)} {
			for i := range b {
				b[i] ^= 255
			}
		}
		if !bytes.Equal(done, want) || !bytes.Equal(undone, wanted) {
			t.Errorf("P2: kind %d keeps what was handed in", kind)
		}
		copy(all(row), kept)
		copy(all(ahead), keptAhead)
		clear(all(done))
		clear(all(undone))
		if !bytes.Equal(all(row), kept) || !bytes.Equal(all(ahead), keptAhead) {
			t.Errorf("P2: kind %d answers what was handed in", kind)
		}
		again, e := filter.Do(kind, row, ahead, 3)
		back, f := filter.Undo(kind, row, ahead, 3)
		if e != api.OK || f != api.OK || !bytes.Equal(again, want) || !bytes.Equal(back, wanted) {
			t.Errorf("P3: kind %d: %v, %v; want %v, %v", kind, again, back, want, wanted)
		}
	}
}
