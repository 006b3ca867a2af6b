package huff_test

import (
	"bytes"
	"math"
	"slices"
	"strings"
	"testing"

	"phosphor/api"
	"phosphor/bits"
	"phosphor/huff"
)

// numbers is a short rule for numbers that look like any.
type numbers uint64

func (s *numbers) below(n int) int {
	*s = *s*6364136223846793005 + 1442695040888963407
	return int(uint32(*s>>32) % uint32(n))
}

// full is lengths of so many codes as there could be, of n symbols and some without a code.
func (s *numbers) full(n, without int) []byte {
	lengths := []byte{1, 1}
	for len(lengths) < n {
		if i := s.below(len(lengths)); lengths[i] < 15 { // where one code was there are two
			lengths[i]++
			lengths = append(lengths, lengths[i])
		}
	}
	lengths = append(lengths, make([]byte, without)...)
	for i := range lengths {
		j := s.below(i + 1)
		lengths[i], lengths[j] = lengths[j], lengths[i]
	}
	return lengths
}

// stream is n bits.
func (s *numbers) stream(n int) string {
	b := make([]byte, n)
	for i := range b {
		b[i] = byte('0' + s.below(2))
	}
	return string(b)
}

// word is a number of n bits as text, the highest bit first.
func word(v, n int) string {
	b := make([]byte, n)
	for i := range b {
		b[i] = byte('0' + v>>(n-1-i)&1)
	}
	return string(b)
}

// dealt is each symbol's code as text: each one begins where the one ahead of it ended, all together are 1 << 15 wide.
func dealt(lengths []byte) []string {
	codes := make([]string, len(lengths))
	at := 0
	for n := 1; n <= 15; n++ {
		for symbol, l := range lengths {
			if int(l) == n {
				codes[symbol] = word(at>>(15-n), n)
				at += 1 << (15 - n)
			}
		}
	}
	return codes
}

// complete is P401's sum held against 1.
func complete(lengths []byte) int {
	sum := 0.0
	for _, l := range lengths {
		if l >= 1 && l <= 15 {
			sum += math.Ldexp(1, -int(l))
		}
	}
	switch {
	case sum < 1:
		return -1
	case sum > 1:
		return 1
	}
	return 0
}

// refusal is what P401 says of New.
func refusal(lengths []byte) api.Errno {
	if len(lengths) > 320 || len(lengths) > 0 && slices.Max(lengths) > 15 {
		return api.ErrArg
	}
	used := bytes.ReplaceAll(lengths, []byte{0}, nil)
	if c := complete(lengths); c > 0 || c < 0 && len(used) > 0 && !bytes.Equal(used, []byte{1}) {
		return api.ErrForm
	}
	return api.OK
}

// next is P402's words, bit by bit: what stands at the stream's front, and how many bits it takes.
func next(codes []string, stream string) (int, int, api.Errno) {
	for n := 0; ; n++ {
		symbol := slices.Index(codes, stream[:n])
		begins := func(code string) bool { return code != "" && strings.HasPrefix(code, stream[:n]) }
		switch {
		case n > 0 && symbol >= 0:
			return symbol, n, api.OK
		case !slices.ContainsFunc(codes, begins):
			return 0, 0, api.ErrForm
		case n == len(stream):
			return 0, 0, api.ErrShort
		}
	}
}

// reader has just these bits left: others, up to a byte, were passed.
func reader(stream string) *bits.Reader {
	w := bits.NewWriter()
	ahead := -len(stream) & 7
	w.Bits(0b1010101, ahead)
	for _, c := range stream {
		w.Bits(uint32(c-'0'), 1)
	}
	r := bits.NewReader(w.Done())
	r.Bits(ahead)
	return r
}

// table fails unless New takes the lengths.
func table(t *testing.T, lengths []byte) *huff.Table {
	t.Helper()
	h, e := huff.New(lengths)
	if e != api.OK || h == nil {
		t.Fatalf("New(%v): %v", lengths, e)
	}
	return h
}

// refused fails unless New answers just this error, or takes the lengths.
func refused(t *testing.T, lengths []byte, want api.Errno) {
	t.Helper()
	h, e := huff.New(lengths)
	if e != want || (h == nil) != (want != api.OK) {
		t.Fatalf("New(%v): %v, %v; want %v", lengths, h != nil, e, want)
	}
}

// reads fails unless the table tells just what stands next, and passes just that.
func reads(t *testing.T, h *huff.Table, codes []string, stream string) {
	t.Helper()
	want, n, wantErr := next(codes, stream)
	r := reader(stream)
	at := r.At()
	for range 2 { // what did not move is told again
		symbol, e := h.Read(r)
		if symbol != want || e != wantErr || r.At() != at+n || r.Left() != len(stream)-n {
			t.Fatalf("%s of %v: %d, %v, %d bits passed; want %d, %v, %d", stream, codes, symbol, e, r.At()-at, want, wantErr, n)
		}
		if wantErr == api.OK {
			return
		}
	}
}

// says fails unless the symbol has just this code; "" is none.
func says(t *testing.T, h *huff.Table, symbol int, code string) {
	t.Helper()
	var want uint32
	for i, c := range code {
		want |= uint32(c-'0') << i
	}
	if v, n := h.Code(symbol); v != want || n != len(code) {
		t.Fatalf("Code(%d): %b, %d; want %b, %d", symbol, v, n, want, len(code))
	}
}

// saysAll fails unless each symbol has its code, and none beside them has one.
func saysAll(t *testing.T, h *huff.Table, codes []string) {
	t.Helper()
	had := 0
	for symbol, code := range codes {
		says(t, h, symbol, code)
		if code != "" {
			had++
		}
	}
	for _, symbol := range []int{-1, -320, math.MinInt, len(codes), len(codes) + 1, 320, 321, 1 << 16, 1 << 32, math.MaxInt} {
		if symbol < 0 || symbol >= len(codes) {
			says(t, h, symbol, "")
		}
	}
	if n := h.Symbols(); n != had {
		t.Fatalf("Symbols: %d; want %d", n, had)
	}
}

// streams tells all of up to n bits.
func streams(n int, each func(stream string)) {
	for k := range n + 1 {
		for v := range 1 << k {
			each(word(v, k))
		}
	}
}

// lists tells all of up to n lengths of these.
func lists(n int, of []byte, each func(lengths []byte)) {
	var grow func(lengths []byte)
	grow = func(lengths []byte) {
		each(lengths)
		for i := 0; len(lengths) < n && i < len(of); i++ {
			grow(append(slices.Clone(lengths), of[i]))
		}
	}
	grow(nil)
}

// some is n lengths, all the same.
func some(n int, length byte) []byte { return bytes.Repeat([]byte{length}, n) }

// stair is lengths 1, 2, .. 14, 15, 15.
func stair() []byte {
	l := []byte{15: 15}
	for i := range 15 {
		l[i] = byte(i + 1)
	}
	return l
}

func TestP401CodesOfTheRFC(t *testing.T) {
	for _, c := range []struct {
		lengths []byte
		codes   []string
	}{
		{[]byte{2, 1, 3, 3}, []string{"10", "0", "110", "111"}}, // 3.2.2's examples
		{[]byte{3, 3, 3, 3, 3, 2, 4, 4}, []string{"010", "011", "100", "101", "110", "00", "1110", "1111"}},
		{[]byte{1, 1}, []string{"0", "1"}},
		{[]byte{0, 1, 0, 1}, []string{"", "0", "", "1"}},
		{[]byte{0, 0, 1}, []string{"", "", "0"}},
		{[]byte{1}, []string{"0"}},
		{[]byte{0, 0}, []string{"", ""}},
		{nil, nil},
		{[]byte{3, 0, 3, 1, 2}, []string{"110", "", "111", "0", "10"}},
	} {
		saysAll(t, table(t, c.lengths), c.codes)
	}
}

func TestP401TheLongestCodes(t *testing.T) {
	codes := dealt(stair())
	if codes[0] != "0" || codes[14] != "111111111111110" || codes[15] != "111111111111111" {
		t.Fatalf("dealt: %v", codes)
	}
	h := table(t, stair())
	saysAll(t, h, codes)
	for n := range 16 {
		reads(t, h, codes, strings.Repeat("1", n)) // short up to 14
		reads(t, h, codes, strings.Repeat("1", n)+"0")
		reads(t, h, codes, strings.Repeat("1", n)+"01")
	}
}

func TestP401Complete(t *testing.T) {
	for _, c := range []struct {
		what    string
		lengths []byte
		want    int
	}{
		{"none", nil, -1},
		{"nothing", []byte{}, -1},
		{"a 0", []byte{0}, -1},
		{"a thousand 0", some(1000, 0), -1},
		{"1", []byte{1}, -1},
		{"1 1", []byte{1, 1}, 0},
		{"1 1 0", []byte{1, 1, 0}, 0},
		{"1 1 15", []byte{1, 1, 15}, 1},
		{"1 2", []byte{1, 2}, -1},
		{"1 2 2", []byte{1, 2, 2}, 0},
		{"1 2 2 16", []byte{1, 2, 2, 16}, 0},
		{"1 1 1", []byte{1, 1, 1}, 1},
		{"16", []byte{16}, -1},
		{"255", []byte{255, 16, 17, 31, 32, 128}, -1},
		{"16 1 1", []byte{16, 1, 1}, 0},
		{"16 1 1 1", []byte{16, 1, 1, 1}, 1},
		{"a stair", stair(), 0},
		{"a stair, one lacks", stair()[:15], -1},
		{"a stair, one more", append(stair(), 15), 1},
		{"32 of five bits", some(32, 5), 0},
		{"31 of five bits", some(31, 5), -1},
		{"33 of five bits", some(33, 5), 1},
		{"all of 15 bits", some(1<<15, 15), 0},
		{"all but one of 15 bits", some(1<<15-1, 15), -1},
		{"one more of 15 bits", some(1<<15+1, 15), 1},
		{"a great many of one bit", some(1<<24, 1), 1},
		{"a great many that count as 0", some(1<<20, 16), -1},
	} {
		if x := huff.Complete(c.lengths); x != c.want {
			t.Errorf("Complete of %s: %d; want %d", c.what, x, c.want)
		}
	}
}

func TestP401Refused(t *testing.T) {
	for _, c := range []struct {
		lengths []byte
		want    api.Errno
	}{
		{some(321, 0), api.ErrArg}, // more than 320
		{append(some(319, 0), 1, 1), api.ErrArg},
		{some(321, 1), api.ErrArg}, // ahead of ErrForm
		{some(1<<16, 0), api.ErrArg},
		{[]byte{16}, api.ErrArg}, // one above 15
		{[]byte{255}, api.ErrArg},
		{[]byte{1, 1, 16}, api.ErrArg},
		{[]byte{16, 1, 1}, api.ErrArg},
		{[]byte{1, 1, 1, 16}, api.ErrArg}, // ahead of ErrForm
		{append(some(319, 0), 16), api.ErrArg},
		{[]byte{1, 1, 1}, api.ErrForm}, // more than there could be
		{[]byte{1, 1, 15}, api.ErrForm},
		{append(stair(), 15), api.ErrForm},
		{some(320, 1), api.ErrForm},
		{some(33, 5), api.ErrForm},
		{stair()[:15], api.ErrForm}, // fewer
		{[]byte{1, 2}, api.ErrForm},
		{[]byte{2, 2, 2}, api.ErrForm},
		{some(31, 5), api.ErrForm},
		{[]byte{2}, api.ErrForm}, // one code alone, of another length
		{[]byte{0, 15, 0}, api.ErrForm},
		{nil, api.OK},
		{[]byte{}, api.OK},
		{some(320, 0), api.OK},
		{[]byte{1}, api.OK},
		{append(some(319, 0), 1), api.OK},
		{append(some(318, 0), 1, 1), api.OK},
		{append(some(304, 0), stair()...), api.OK},
		{some(32, 5), api.OK},
	} {
		refused(t, c.lengths, c.want)
	}
}

func TestP401AllShortLists(t *testing.T) {
	taken := 0
	lists(6, []byte{0, 1, 2, 3, 4}, func(lengths []byte) {
		if x := huff.Complete(lengths); x != complete(lengths) {
			t.Fatalf("Complete(%v): %d", lengths, x)
		}
		want := refusal(lengths)
		refused(t, lengths, want)
		if want != api.OK {
			return
		}
		taken++
		h, codes := table(t, lengths), dealt(lengths)
		saysAll(t, h, codes)
		streams(5, func(stream string) { reads(t, h, codes, stream) })
	})
	if taken < 100 {
		t.Errorf("%d lists alone were taken", taken)
	}
}

func TestP401AllShortListsAtTheEdge(t *testing.T) {
	lists(4, []byte{0, 1, 2, 14, 15, 16, 17, 255}, func(lengths []byte) {
		if x := huff.Complete(lengths); x != complete(lengths) {
			t.Fatalf("Complete(%v): %d", lengths, x)
		}
		refused(t, lengths, refusal(lengths))
	})
}

func TestP401AnyLengths(t *testing.T) {
	s := numbers(1)
	for range 300 {
		n := 2 + s.below(319)
		lengths := s.full(n, s.below(321-n))
		h, codes := table(t, lengths), dealt(lengths)
		saysAll(t, h, codes)
		if x := huff.Complete(lengths); x != 0 {
			t.Fatalf("Complete(%v): %d", lengths, x)
		}
		for range 20 {
			reads(t, h, codes, s.stream(s.below(20)))
		}
		lengths[s.below(len(lengths))] = byte(s.below(18)) // a fault, most times
		if x := huff.Complete(lengths); x != complete(lengths) {
			t.Fatalf("Complete(%v): %d", lengths, x)
		}
		refused(t, lengths, refusal(lengths))
	}
}

func TestP402NoneAtAll(t *testing.T) {
	for _, lengths := range [][]byte{nil, {0}, some(320, 0)} {
		h := table(t, lengths)
		for _, stream := range []string{"", "0", "1", "00000000", "1111111111111111"} {
			r := reader(stream)
			at := r.At()
			if x, e := h.Read(r); x != 0 || e != api.ErrForm || r.At() != at { // at once
				t.Errorf("Read of %q: %d, %v, at %d", stream, x, e, r.At())
			}
		}
	}
}

func TestP402OneAlone(t *testing.T) {
	for _, symbol := range []int{0, 1, 29, 319} {
		lengths := append(some(symbol, 0), 1)
		h := table(t, lengths)
		r := reader("0010")
		for _, c := range []struct {
			want int
			e    api.Errno
			left int
		}{{symbol, api.OK, 3}, {symbol, api.OK, 2}, {0, api.ErrForm, 2}, {0, api.ErrForm, 2}} {
			if x, e := h.Read(r); x != c.want || e != c.e || r.Left() != c.left {
				t.Fatalf("%d alone: %d, %v, %d left; want %v", symbol, x, e, r.Left(), c)
			}
		}
		r.Bits(1)
		if x, e := h.Read(r); x != symbol || e != api.OK || r.Left() != 0 {
			t.Fatalf("%d alone: %d, %v, %d left", symbol, x, e, r.Left())
		}
		if x, e := h.Read(r); x != 0 || e != api.ErrShort || r.Left() != 0 {
			t.Fatalf("%d alone, at the end: %d, %v", symbol, x, e)
		}
		if x, e := h.Read(reader("1")); x != 0 || e != api.ErrForm { // the last bit
			t.Fatalf("%d alone, 1 at the end: %d, %v", symbol, x, e)
		}
	}
}

func TestP402Short(t *testing.T) {
	for _, lengths := range [][]byte{{1, 1}, {2, 1, 3, 3}, some(256, 8), stair()} {
		h := table(t, lengths)
		for _, code := range dealt(lengths) {
			for n := range code {
				r := reader(code[:n])
				at := r.At()
				if x, e := h.Read(r); x != 0 || e != api.ErrShort || r.At() != at || r.Left() != n {
					t.Fatalf("%s of %s: %d, %v, at %d", code[:n], code, x, e, r.At())
				}
			}
		}
	}
}

func TestP402JustThat(t *testing.T) {
	h := table(t, []byte{2, 1, 3, 3})
	r := reader("0" + "10" + "110" + "111" + "10" + "0" + "11")
	at := r.At()
	for _, c := range []struct{ symbol, n int }{{1, 1}, {0, 2}, {2, 3}, {3, 3}, {0, 2}, {1, 1}} {
		x, e := h.Read(r)
		if at += c.n; x != c.symbol || e != api.OK || r.At() != at {
			t.Fatalf("%d, %v, at %d; want %d, at %d", x, e, r.At(), c.symbol, at)
		}
	}
	if x, e := h.Read(r); x != 0 || e != api.ErrShort || r.Left() != 2 {
		t.Errorf("at the end: %d, %v, %d left", x, e, r.Left())
	}
	if v, ok := r.Bits(2); v != 3 || !ok { // the bits that were too few are still there
		t.Errorf("what was left: %b, %v", v, ok)
	}
}

func TestP402CodesAsBitsTellsThem(t *testing.T) {
	s := numbers(2)
	for range 100 {
		n := 2 + s.below(319)
		lengths := s.full(n, s.below(321-n))
		h := table(t, lengths)
		w := bits.NewWriter()
		var symbols []int
		for range 200 {
			symbol := s.below(len(lengths))
			if lengths[symbol] > 0 {
				symbols = append(symbols, symbol)
				w.Bits(h.Code(symbol))
			}
		}
		r := bits.NewReader(w.Done())
		for _, symbol := range symbols {
			want, n := h.Code(symbol)
			if v, ok := r.Peek(n); v != want || !ok {
				t.Fatalf("%d: %b, %v; want %b", symbol, v, ok, want)
			}
			if x, e := h.Read(r); x != symbol || e != api.OK {
				t.Fatalf("%d, %v; want %d", x, e, symbol)
			}
		}
	}
}

func TestP402Fixed(t *testing.T) {
	literals, distances := huff.Fixed()
	want := slices.Concat(some(144, 8), some(112, 9), some(24, 7), some(8, 8))
	if len(want) != 288 || !bytes.Equal(literals, want) || !bytes.Equal(distances, some(30, 5)) {
		t.Fatalf("Fixed: %v, %v", literals, distances)
	}
	h := table(t, literals)
	for _, c := range []struct { // 3.2.6
		symbol int
		code   string
	}{
		{0, "00110000"}, {1, "00110001"}, {143, "10111111"}, {144, "110010000"}, {255, "111111111"},
		{256, "0000000"}, {279, "0010111"}, {280, "11000000"}, {287, "11000111"}, {288, ""},
	} {
		says(t, h, c.symbol, c.code)
		if c.code != "" {
			reads(t, h, dealt(literals), c.code)
		}
	}
	saysAll(t, h, dealt(literals))
	refused(t, distances, api.ErrForm)
	if x := huff.Complete(distances); x != -1 {
		t.Errorf("Complete of the distances: %d", x)
	}
	saysAll(t, table(t, append(slices.Clone(distances), 5, 5)), dealt(some(32, 5)))
}

func TestP402FixedIsNewMemory(t *testing.T) { // P2
	for range 2 { // the same again, whatever was done to the answers
		literals, distances := huff.Fixed()
		if !bytes.Equal(literals, slices.Concat(some(144, 8), some(112, 9), some(24, 7), some(8, 8))) {
			t.Errorf("Fixed: %v", literals)
		}
		clear(literals[:cap(literals)])
		if !bytes.Equal(distances, some(30, 5)) {
			t.Errorf("Fixed: %v", distances)
		}
		clear(distances[:cap(distances)])
	}
}

func TestP401KeepsNothing(t *testing.T) { // P2
	room := []byte{2, 1, 3, 3, 7, 7, 7, 7}
	before := slices.Clone(room)
	h := table(t, room[:4])
	huff.Complete(room[:5])
	huff.New(room[:6])
	if !bytes.Equal(room, before) {
		t.Errorf("what was handed in is changed: %v", room)
	}
	clear(room)
	saysAll(t, h, []string{"10", "0", "110", "111"})
	reads(t, h, []string{"10", "0", "110", "111"}, "1101")
}

func TestP402OwnObjects(t *testing.T) { // P3, P7
	lengths := []byte{2, 1, 3, 3}
	h, same, other := table(t, lengths), table(t, lengths), table(t, []byte{0, 2, 2, 2, 2})
	if h == same {
		t.Fatal("New: one table twice")
	}
	r, elsewhere := reader("110"), reader("110")
	for _, c := range []struct {
		h    *huff.Table
		r    *bits.Reader
		want int
		e    api.Errno
	}{{h, r, 2, api.OK}, {h, r, 0, api.ErrShort}, {same, elsewhere, 2, api.OK}, {other, reader("110"), 4, api.OK}, {h, reader("0"), 1, api.OK}} {
		if x, e := c.h.Read(c.r); x != c.want || e != c.e {
			t.Errorf("%d, %v; want %d, %v", x, e, c.want, c.e)
		}
	}
}

func TestP402ATableOfNoNew(t *testing.T) { // P1
	var h huff.Table
	if x, e := h.Read(reader("0101")); x != 0 || e != api.ErrForm {
		t.Errorf("%d, %v", x, e)
	}
	saysAll(t, &h, nil)
}
