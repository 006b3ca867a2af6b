package bits_test

import (
	"bytes"
	"math"
	"math/big"
	"slices"
	"strconv"
	"testing"

	"phosphor/bits"
)

// numbers is a short rule for numbers that look like any.
type numbers uint64

func (s *numbers) next() uint32 {
	*s = *s*6364136223846793005 + 1442695040888963407
	return uint32(*s >> 32)
}

func (s *numbers) below(n int) int { return int(s.next() % uint32(n)) }

func (s *numbers) bytes(n int) []byte {
	b := make([]byte, n)
	for i := range b {
		b[i] = byte(s.next())
	}
	return b
}

// unwrap tells the bits of b one by one, as P101 orders them.
func unwrap(b []byte) []uint32 {
	var l []uint32
	for _, c := range b {
		for i := range 8 {
			l = append(l, uint32(c>>i&1))
		}
	}
	return l
}

// wrap is the other way round; bits 0 fill up the last byte.
func wrap(l []uint32) []byte {
	b := make([]byte, (len(l)+7)/8)
	for i, v := range l {
		b[i/8] |= byte(v << (i % 8))
	}
	return b
}

// number tells bits as a number, the first one the lowest.
func number(l []uint32) uint32 {
	var v uint32
	for i, b := range l {
		v |= b << i
	}
	return v
}

// stands fails unless r stands behind so many bits, with so many left.
func stands(t *testing.T, r *bits.Reader, at, left int) {
	t.Helper()
	if r.At() != at || r.Left() != left {
		t.Fatalf("At %d, Left %d; want %d, %d", r.At(), r.Left(), at, left)
	}
}

func TestP101BitsLowestFirst(t *testing.T) {
	r := bits.NewReader([]byte{0b10110100, 0b00000011, 0xFF})
	stands(t, r, 0, 24)
	for _, c := range []struct {
		n    int
		want uint32
		at   int
	}{{1, 0, 1}, {2, 0b10, 3}, {3, 0b110, 6}, {4, 0b1110, 10}, {0, 0, 10}, {14, 0b11111111000000, 24}, {0, 0, 24}} {
		if v, ok := r.Peek(c.n); v != c.want || !ok {
			t.Errorf("Peek(%d): %b, %v; want %b", c.n, v, ok, c.want)
		}
		if v, ok := r.Bits(c.n); v != c.want || !ok {
			t.Errorf("Bits(%d): %b, %v; want %b", c.n, v, ok, c.want)
		}
		stands(t, r, c.at, 24-c.at)
	}
}

func TestP101WholeNumbers(t *testing.T) {
	b := []byte{0x01, 0x23, 0x45, 0x67, 0x89, 0xAB, 0xCD, 0xEF}
	all := unwrap(b)
	for at := range 33 { // 32 bits from each place of a byte on
		r := bits.NewReader(b)
		r.Bits(at)
		if v, ok := r.Peek(32); v != number(all[at:at+32]) || !ok {
			t.Errorf("Peek(32) at %d: %x, %v", at, v, ok)
		}
		stands(t, r, at, 64-at)
		if v, ok := r.Bits(32); v != number(all[at:at+32]) || !ok {
			t.Errorf("Bits(32) at %d: %x, %v", at, v, ok)
		}
		stands(t, r, at+32, 32-at)
	}
}

func TestP101BitsRefused(t *testing.T) {
	r := bits.NewReader([]byte{0xFF, 0xFF, 0xFF, 0xFF, 0xFF, 0xFF})
	r.Bits(3)
	for _, n := range []int{-1, -8, 33, 40, 64, math.MinInt, math.MaxInt} {
		if v, ok := r.Bits(n); v != 0 || ok {
			t.Errorf("Bits(%d): %d, %v", n, v, ok)
		}
		if v, ok := r.Peek(n); v != 0 || ok {
			t.Errorf("Peek(%d): %d, %v", n, v, ok)
		}
		stands(t, r, 3, 45)
	}
	r.Bits(32)
	for _, n := range []int{14, 32} { // 13 are left
		if v, ok := r.Bits(n); v != 0 || ok {
			t.Errorf("Bits(%d) of 13: %d, %v", n, v, ok)
		}
		if v, ok := r.Peek(n); v != 0 || ok {
			t.Errorf("Peek(%d) of 13: %d, %v", n, v, ok)
		}
		stands(t, r, 35, 13)
	}
	if v, ok := r.Bits(13); v != 1<<13-1 || !ok {
		t.Errorf("Bits(13) of 13: %x, %v", v, ok)
	}
	stands(t, r, 48, 0)
}

func TestP101Align(t *testing.T) {
	for at := range 17 {
		r := bits.NewReader([]byte{1, 2, 3})
		r.Bits(at)
		past := (at + 7) / 8 * 8
		if n := r.Align(); n != past-at {
			t.Errorf("Align at %d: %d", at, n)
		}
		stands(t, r, past, 24-past)
		if n := r.Align(); n != 0 {
			t.Errorf("Align again at %d: %d", at, n)
		}
		if v, ok := r.Bits(8); v != uint32(past/8+1) || !ok {
			t.Errorf("Bits behind Align at %d: %d, %v", at, v, ok)
		}
	}
}

func TestP101AlignAtTheEnd(t *testing.T) {
	r := bits.NewReader([]byte{0xA5})
	r.Bits(5)
	if n := r.Align(); n != 3 {
		t.Errorf("Align in the last byte: %d", n)
	}
	stands(t, r, 8, 0)
	if n := r.Align(); n != 0 {
		t.Errorf("Align at the end: %d", n)
	}
	stands(t, r, 8, 0)
}

func TestP101Bytes(t *testing.T) {
	r := bits.NewReader([]byte{1, 2, 3, 4, 5})
	if b, ok := r.Bytes(2); !ok || !bytes.Equal(b, []byte{1, 2}) {
		t.Errorf("Bytes(2): %v, %v", b, ok)
	}
	stands(t, r, 16, 24)
	if b, ok := r.Bytes(0); !ok || len(b) != 0 {
		t.Errorf("Bytes(0): %v, %v", b, ok)
	}
	stands(t, r, 16, 24)
	for _, n := range []int{-1, 4, math.MinInt, math.MaxInt, math.MaxInt / 8} {
		if b, ok := r.Bytes(n); b != nil || ok {
			t.Errorf("Bytes(%d) of 3: %v, %v", n, b, ok)
		}
		stands(t, r, 16, 24)
	}
	if b, ok := r.Bytes(3); !ok || !bytes.Equal(b, []byte{3, 4, 5}) {
		t.Errorf("Bytes(3): %v, %v", b, ok)
	}
	stands(t, r, 40, 0)
	if b, ok := r.Bytes(0); !ok || len(b) != 0 {
		t.Errorf("Bytes(0) at the end: %v, %v", b, ok)
	}
	if b, ok := r.Bytes(1); b != nil || ok {
		t.Errorf("Bytes(1) at the end: %v, %v", b, ok)
	}
}

func TestP101BytesNotAtABegin(t *testing.T) {
	for at := 1; at < 8; at++ {
		r := bits.NewReader([]byte{1, 2, 3})
		r.Bits(at)
		for _, n := range []int{-1, 0, 1, 2, 3} {
			if b, ok := r.Bytes(n); b != nil || ok {
				t.Errorf("Bytes(%d) at %d: %v, %v", n, at, b, ok)
			}
			stands(t, r, at, 24-at)
		}
	}
}

func TestP101Nothing(t *testing.T) {
	for _, b := range [][]byte{nil, {}} {
		r := bits.NewReader(b)
		stands(t, r, 0, 0)
		if v, ok := r.Bits(0); v != 0 || !ok {
			t.Errorf("Bits(0) of nothing: %d, %v", v, ok)
		}
		if v, ok := r.Bits(1); v != 0 || ok {
			t.Errorf("Bits(1) of nothing: %d, %v", v, ok)
		}
		if l, ok := r.Bytes(0); len(l) != 0 || !ok {
			t.Errorf("Bytes(0) of nothing: %v, %v", l, ok)
		}
		if n := r.Align(); n != 0 {
			t.Errorf("Align of nothing: %d", n)
		}
		stands(t, r, 0, 0)
	}
}

// checkRead does one call, and tells where the reader must stand then.
func checkRead(t *testing.T, r *bits.Reader, b []byte, all []uint32, at, call, n int) int {
	t.Helper()
	left := len(all) - at
	switch call {
	case 0, 1:
		v, ok := r.Peek(n)
		if call == 0 {
			v, ok = r.Bits(n)
		}
		want := n >= 0 && n <= 32 && n <= left
		if ok != want || ok && v != number(all[at:at+n]) || !ok && v != 0 {
			t.Fatalf("bits %d at %d: %x, %v", n, at, v, ok)
		}
		if ok && call == 0 {
			at += n
		}
	case 2:
		past := (at + 7) / 8 * 8
		if k := r.Align(); k != past-at {
			t.Fatalf("Align at %d: %d", at, k)
		}
		at = past
	case 3:
		l, ok := r.Bytes(n)
		want := at%8 == 0 && n >= 0 && n <= left/8
		if ok != want || ok && !bytes.Equal(l, b[at/8:at/8+n]) || !ok && l != nil {
			t.Fatalf("Bytes(%d) at %d: %v, %v", n, at, l, ok)
		}
		if ok {
			at += 8 * n
		}
	}
	return at
}

func TestP101AnyCalls(t *testing.T) {
	s := numbers(1)
	for range 500 {
		b := s.bytes(s.below(60))
		all := unwrap(b)
		r := bits.NewReader(b)
		at := 0
		for range 40 {
			call := s.below(4)
			n := s.below(38) - 2
			if call == 3 {
				n = s.below(8) - 1
			}
			at = checkRead(t, r, b, all, at, call, n)
			stands(t, r, at, len(all)-at)
		}
	}
}

func TestP101KeepsNothing(t *testing.T) {
	room := []byte{1, 2, 3, 4, 5, 6}
	b := room[:4]
	r := bits.NewReader(b)
	b[0], b[1], b[2], b[3] = 9, 9, 9, 9 // P2: what was handed in is not kept
	first, _ := r.Bytes(2)
	if !bytes.Equal(first, []byte{1, 2}) {
		t.Errorf("the reader keeps what it was handed: %v", first)
	}
	first = append(first, 7, 7) // nor is an answer's room the reader's
	first[0] = 8
	second, _ := r.Bytes(2)
	if !bytes.Equal(second, []byte{3, 4}) || !bytes.Equal(first, []byte{8, 2, 7, 7}) {
		t.Errorf("answers share memory: %v, %v", first, second)
	}
	if !bytes.Equal(room, []byte{9, 9, 9, 9, 5, 6}) {
		t.Errorf("what was handed in is changed: %v", room)
	}
}

func TestP101AnswersAreNewMemory(t *testing.T) {
	r := bits.NewReader([]byte{1, 2, 3})
	twin := *r // goes over the same bytes once more
	first, _ := r.Bytes(2)
	clear(first[:cap(first)])
	if b, ok := twin.Bytes(3); !ok || !bytes.Equal(b, []byte{1, 2, 3}) {
		t.Errorf("an answer is the reader's: %v, %v", b, ok)
	}
}

func TestP101OwnObjects(t *testing.T) {
	b := []byte{1, 2, 3}
	r, other := bits.NewReader(b), bits.NewReader(b) // P7
	r.Bits(11)
	stands(t, other, 0, 24)
	stands(t, r, 11, 13)
}

func TestP102BitsLowestFirst(t *testing.T) {
	w := bits.NewWriter()
	w.Bits(0b0, 1)
	w.Bits(0b10, 2)
	w.Bits(0b110, 3)
	w.Bits(0b1110, 4)
	if b := w.Done(); !bytes.Equal(b, []byte{0b10110100, 0b00000011}) {
		t.Errorf("%08b", b)
	}
}

func TestP102OnlyTheLowest(t *testing.T) {
	for n := 1; n <= 32; n++ {
		for at := range 8 {
			w := bits.NewWriter()
			if at > 0 {
				w.Bits(0, at)
			}
			w.Bits(math.MaxUint32, n)
			w.Bits(0, 32)
			l := make([]uint32, at+n+32)
			for i := range n {
				l[at+i] = 1
			}
			if b := w.Done(); !bytes.Equal(b, wrap(l)) {
				t.Errorf("Bits(.., %d) at %d: % x; want % x", n, at, b, wrap(l))
			}
		}
	}
}

func TestP102BitsRefused(t *testing.T) {
	w := bits.NewWriter()
	w.Bits(0b101, 3)
	for _, n := range []int{0, -1, -8, 33, 40, 64, math.MinInt, math.MaxInt} {
		w.Bits(math.MaxUint32, n)
	}
	w.Bits(0b11, 2)
	if b := w.Done(); !bytes.Equal(b, []byte{0b11101}) {
		t.Errorf("%08b", b)
	}
}

func TestP102Align(t *testing.T) {
	for n := range 18 {
		w := bits.NewWriter()
		w.Bits(math.MaxUint32, n)
		w.Align()
		w.Align() // at a begin: nothing
		w.Bits(1, 1)
		want := make([]uint32, (n+7)/8*8+1)
		for i := range n {
			want[i] = 1
		}
		want[len(want)-1] = 1
		if b := w.Done(); !bytes.Equal(b, wrap(want)) {
			t.Errorf("Align behind %d: %08b; want %08b", n, b, wrap(want))
		}
	}
}

func TestP102Bytes(t *testing.T) {
	w := bits.NewWriter()
	w.Bytes([]byte{1, 2})
	w.Bits(0b111, 3)
	w.Bytes([]byte{3})
	w.Bits(1, 1)
	w.Bytes(nil) // Align all the same
	w.Bits(1, 1)
	w.Bytes([]byte{})
	w.Bytes([]byte{4})
	if b := w.Done(); !bytes.Equal(b, []byte{1, 2, 7, 3, 1, 1, 4}) {
		t.Errorf("%v", b)
	}
}

func TestP102DoneAndOn(t *testing.T) {
	w := bits.NewWriter()
	if b := w.Done(); len(b) != 0 {
		t.Errorf("of nothing: %v", b)
	}
	w.Bits(0b101, 3)
	for range 2 {
		if b := w.Done(); !bytes.Equal(b, []byte{0b101}) {
			t.Errorf("of three bits: %08b", b)
		}
	}
	w.Bits(0b11, 2) // as if the bits 0 behind had not been laid
	if b := w.Done(); !bytes.Equal(b, []byte{0b11101}) {
		t.Errorf("of five bits: %08b", b)
	}
	w.Bits(0b100, 3)
	if b := w.Done(); !bytes.Equal(b, []byte{0b10011101}) {
		t.Errorf("of eight bits: %08b", b)
	}
	w.Bits(1, 1)
	if b := w.Done(); !bytes.Equal(b, []byte{0b10011101, 1}) {
		t.Errorf("of nine bits: %08b", b)
	}
}

func TestP102KeepsNothing(t *testing.T) {
	for _, n := range []int{0, 3} { // Done of whole bytes, and of bits behind
		w := bits.NewWriter()
		room := []byte{1, 2, 3, 4, 5}
		w.Bytes(room[:4])
		room[0] = 9
		w.Bits(7, n)
		first, second := w.Done(), w.Done()
		_ = append(first[:len(first):cap(first)], 1, 2, 3)
		clear(first[:cap(first)])
		want := []byte{1, 2, 3, 4}
		if n > 0 {
			want = append(want, 7)
		}
		if !bytes.Equal(second, want) || !bytes.Equal(w.Done(), want) {
			t.Errorf("answers share memory: %v, %v", second, w.Done())
		}
		w.Bits(0xFF, 8)
		if !bytes.Equal(second, want) {
			t.Errorf("an answer is the writer's: %v", second)
		}
		if !bytes.Equal(room, []byte{9, 2, 3, 4, 5}) {
			t.Errorf("what was handed in is changed: %v", room)
		}
	}
}

func TestP102OwnObjects(t *testing.T) {
	w, other := bits.NewWriter(), bits.NewWriter() // P7
	w.Bits(5, 3)
	if b := other.Done(); len(b) != 0 {
		t.Errorf("%v", b)
	}
}

func TestP102AnyCalls(t *testing.T) {
	s := numbers(2)
	for range 500 {
		w := bits.NewWriter()
		var l []uint32
		for range s.below(40) {
			switch s.below(5) {
			case 0, 1:
				v, n := s.next(), s.below(36)-1
				w.Bits(v, n)
				if n >= 1 && n <= 32 {
					for i := range n {
						l = append(l, v>>i&1)
					}
				}
			case 2:
				w.Align()
				l = unwrap(wrap(l))
			case 3:
				b := s.bytes(s.below(5))
				w.Bytes(b)
				l = unwrap(append(wrap(l), b...))
			case 4:
				if b := w.Done(); !bytes.Equal(b, wrap(l)) {
					t.Fatalf("on the way: % x; want % x", b, wrap(l))
				}
			}
		}
		if b := w.Done(); !bytes.Equal(b, wrap(l)) {
			t.Fatalf("% x; want % x", b, wrap(l))
		}
	}
}

func TestP102ReadBack(t *testing.T) {
	s := numbers(3)
	w := bits.NewWriter()
	type part struct {
		v uint32
		n int
	}
	var l []part
	for range 2000 {
		n := s.below(32) + 1
		v := s.next() >> (32 - n)
		l = append(l, part{v, n})
		w.Bits(v, n)
	}
	r := bits.NewReader(w.Done())
	for i, p := range l {
		if v, ok := r.Bits(p.n); v != p.v || !ok {
			t.Fatalf("part %d: %x, %v; want %x", i, v, ok, p.v)
		}
	}
	if r.Left() >= 8 {
		t.Errorf("%d bits too many", r.Left())
	}
}

func TestP103Mul(t *testing.T) {
	for _, c := range []struct {
		l    []int
		want int
		ok   bool
	}{
		{nil, 1, true},
		{[]int{}, 1, true},
		{[]int{0}, 0, true},
		{[]int{7}, 7, true},
		{[]int{3, 5, 7}, 105, true},
		{[]int{1 << 40}, 1 << 40, true},
		{[]int{1<<40 + 1}, 0, false},
		{[]int{1 << 20, 1 << 20}, 1 << 40, true},
		{[]int{1 << 20, 1<<20 + 1}, 0, false},
		{[]int{3, (1 << 40) / 3}, 1<<40 - 1, true}, // 2^40 is 1 above a multiple of 3
		{[]int{3, (1<<40)/3 + 1}, 0, false},
		{[]int{1, 1, 1 << 40, 1}, 1 << 40, true},
		{[]int{1 << 40, 2, 0}, 0, false},      // above on the way
		{[]int{0, 1 << 41, 1 << 41}, 0, true}, // 0 on the way
		{[]int{0, math.MaxInt}, 0, true},      // likewise
		{[]int{1 << 32, 1 << 32}, 0, false},   // wraps to 0
		{[]int{1 << 33, 1 << 31}, 0, false},   // wraps to 0
		{[]int{math.MaxInt, 3}, 0, false},     // wraps to less
		{[]int{2, math.MaxInt}, 0, false},     // wraps to -2
		{[]int{-1}, 0, false},                 // below 0
		{[]int{-1, -1}, 0, false},             // though the product is not
		{[]int{0, -1}, 0, false},              // behind a 0
		{[]int{-1, 0}, 0, false},              // ahead of one
		{[]int{5, 0, math.MinInt}, 0, false},  // far below
		{[]int{1 << 41, -1}, 0, false},        // both
		{[]int{1 << 14, 1 << 14, 4}, 1 << 30, true},
	} {
		if n, ok := bits.Mul(c.l...); n != c.want || ok != c.ok {
			t.Errorf("Mul(%v): %d, %v; want %d, %v", c.l, n, ok, c.want, c.ok)
		}
	}
}

// multiply is Mul by numbers that have no end.
func multiply(l []int) (int, bool) {
	most, product := big.NewInt(1<<40), big.NewInt(1)
	for _, n := range l {
		product.Mul(product, big.NewInt(int64(n)))
		if n < 0 || product.Cmp(most) > 0 {
			return 0, false
		}
	}
	return int(product.Int64()), true
}

func TestP103MulAny(t *testing.T) {
	s := numbers(4)
	for range 20000 {
		l := make([]int, s.below(5))
		for i := range l {
			l[i] = int(s.next()) >> s.below(33)
			if s.below(40) == 0 {
				l[i] = -l[i]
			}
		}
		kept := slices.Clone(l)
		want, fits := multiply(l)
		if n, ok := bits.Mul(l...); n != want || ok != fits {
			t.Fatalf("Mul(%v): %d, %v; want %d, %v", l, n, ok, want, fits)
		}
		if !slices.Equal(l, kept) {
			t.Fatalf("Mul changes %v to %v", kept, l)
		}
	}
}

func TestP103Big(t *testing.T) {
	for _, c := range []struct {
		b    []byte
		want uint32
	}{
		{nil, 0},
		{[]byte{}, 0},
		{[]byte{1}, 0},
		{[]byte{1, 2, 3}, 0},
		{[]byte{1, 2, 3, 4}, 0x01020304},
		{[]byte{0xFE, 0, 0, 0xFF, 7, 8}, 0xFE0000FF},
		{[]byte{0xFF, 0xFF, 0xFF, 0xFF}, math.MaxUint32},
		{[]byte{1, 2, 3, 4}[:3], 0}, // the room behind is none of b
	} {
		if v := bits.Big(c.b); v != c.want {
			t.Errorf("Big(%v): %x; want %x", c.b, v, c.want)
		}
	}
}

func TestP103Reverse(t *testing.T) {
	for _, c := range []struct {
		v    uint32
		n    int
		want uint32
	}{
		{0b1, 1, 0b1},
		{0b110, 3, 0b011},
		{0b1101, 4, 0b1011},
		{0b110, 5, 0b01100},
		{0b11110010, 3, 0b010}, // what is above counts for nothing
		{0x00000001, 32, 0x80000000},
		{0x12345678, 32, 0x1E6A2C48},
		{math.MaxUint32, 31, math.MaxUint32 >> 1},
		{math.MaxUint32, 0, 0},
		{math.MaxUint32, -1, 0},
		{math.MaxUint32, 33, 0},
		{math.MaxUint32, 64, 0},
		{math.MaxUint32, math.MinInt, 0},
		{math.MaxUint32, math.MaxInt, 0},
	} {
		if v := bits.Reverse(c.v, c.n); v != c.want {
			t.Errorf("Reverse(%b, %d): %b; want %b", c.v, c.n, v, c.want)
		}
	}
}

func TestP103ReverseAny(t *testing.T) {
	s := numbers(5)
	for range 5000 {
		v, n := s.next(), s.below(32)+1
		text := []byte(strconv.FormatUint(1<<32|uint64(v), 2)) // 33 signs
		text = text[33-n:]
		slices.Reverse(text)
		want, _ := strconv.ParseUint(string(text), 2, 64)
		if got := bits.Reverse(v, n); got != uint32(want) {
			t.Fatalf("Reverse(%b, %d): %b; want %b", v, n, got, want)
		}
	}
}
