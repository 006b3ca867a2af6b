package utf_test

import (
	"bytes"
	"math"
	"slices"
	"strconv"
	"testing"
	"unicode/utf8"

	"phosphor/utf"
)

// numbers is a short rule for numbers that look like any.
type numbers uint64

func (s *numbers) below(n int) int {
	*s = *s*6364136223846793005 + 1442695040888963407
	return int(uint32(*s>>32) % uint32(n))
}

// bytes are mostly such as go on with one another, with spare room behind them.
func (s *numbers) bytes(n int) []byte {
	b := make([]byte, n+5)
	for i := range b {
		switch s.below(4) {
		case 0:
			b[i] = byte(s.below(256))
		case 1:
			b[i] = edges[s.below(len(edges))]
		default:
			b[i] = byte(0x80 + s.below(64))
		}
	}
	return b[:n]
}

// edges are the bytes at which P1001 says something else than of the one ahead or behind.
var edges = []byte{
	0x00, 0x41, 0x7F, 0x80, 0x8F, 0x90, 0x9F, 0xA0, 0xBF, 0xC0, 0xC1, 0xC2, 0xDF,
	0xE0, 0xE1, 0xEC, 0xED, 0xEE, 0xEF, 0xF0, 0xF1, 0xF3, 0xF4, 0xF5, 0xFF,
}

// forms are P1001's words as rows: from where to where each byte of a character is.
var forms = [][][2]byte{
	{{0x00, 0x7F}},
	{{0xC2, 0xDF}, {0x80, 0xBF}},
	{{0xE0, 0xE0}, {0xA0, 0xBF}, {0x80, 0xBF}},
	{{0xE1, 0xEC}, {0x80, 0xBF}, {0x80, 0xBF}},
	{{0xED, 0xED}, {0x80, 0x9F}, {0x80, 0xBF}},
	{{0xEE, 0xEF}, {0x80, 0xBF}, {0x80, 0xBF}},
	{{0xF0, 0xF0}, {0x90, 0xBF}, {0x80, 0xBF}, {0x80, 0xBF}},
	{{0xF1, 0xF3}, {0x80, 0xBF}, {0x80, 0xBF}, {0x80, 0xBF}},
	{{0xF4, 0xF4}, {0x80, 0x8F}, {0x80, 0xBF}, {0x80, 0xBF}},
}

// fitting is how many bytes of b fit the best form from its beginning on, and whether that form is whole.
func fitting(b []byte) (int, bool) {
	best, whole := 0, false
	for _, form := range forms {
		n := 0
		for n < len(form) && n < len(b) && form[n][0] <= b[n] && b[n] <= form[n][1] {
			n++
		}
		if n > best {
			best, whole = n, n == len(form)
		}
	}
	return best, whole
}

// plain tells what is certain of bytes that came one by one, and whether something waits.
func plain(b []byte) ([]rune, bool) {
	var out []rune
	for len(b) > 0 {
		n, whole := fitting(b)
		if !whole && n > 0 && n == len(b) {
			return out, true
		}
		r := rune(utf.Bad)
		if whole {
			r, _ = utf8.DecodeRune(b[:n]) // the library's is right on what is whole
		}
		out = append(out, r)
		b = b[max(n, 1):]
	}
	return out, false
}

// feed hands b to a new decoder and fails unless it tells just what the plain one does, byte by byte.
func feed(t *testing.T, b []byte) *utf.Decoder {
	t.Helper()
	d := utf.New()
	var got []rune
	for i := range b {
		got = append(got, d.Put(b[i])...)
		want, waits := plain(b[:i+1])
		if !slices.Equal(got, want) || d.Waits() != waits {
			t.Fatalf("Put of % x: %x, waits %v; want %x, %v", b[:i+1], got, d.Waits(), want, waits)
		}
	}
	return d
}

// ended is what a decoder tells of bytes that end there.
func ended(b []byte) []rune {
	out, waits := plain(b)
	if waits {
		out = append(out, utf.Bad)
	}
	return out
}

// whole fails unless bytes that end tell just what the plain decoder does, in pieces and at once.
func whole(t *testing.T, b []byte) {
	t.Helper()
	d := feed(t, b)
	before, waits := plain(b)
	rest := d.End()
	if waits != (len(rest) == 1) || d.Waits() || !slices.Equal(append(before, rest...), ended(b)) {
		t.Fatalf("End behind % x: %x, waits %v", b, rest, d.Waits())
	}
	if again := d.End(); len(again) != 0 {
		t.Fatalf("End twice behind % x: %x", b, again)
	}
	if l := utf.All(b); !slices.Equal(l, ended(b)) {
		t.Fatalf("All of % x: %x; want %x", b, l, ended(b))
	}
}

func TestP1001WholeTexts(t *testing.T) {
	for _, c := range []struct {
		b    string
		want []rune
	}{
		{"", nil},
		{"\x00a\x7F", []rune{0, 'a', 0x7F}},
		{"\xC2\x80\xDF\xBF", []rune{0x80, 0x7FF}},
		{"\xE0\xA0\x80\xED\x9F\xBF\xEE\x80\x80\xEF\xBF\xBF", []rune{0x800, 0xD7FF, 0xE000, 0xFFFF}},
		{"\xF0\x90\x80\x80\xF4\x8F\xBF\xBF", []rune{0x10000, 0x10FFFF}},
		{"\xEF\xBF\xBD", []rune{utf.Bad}},
		{"\xEF\xBB\xBFa", []rune{0xFEFF, 'a'}},
	} {
		if l := utf.All([]byte(c.b)); !slices.Equal(l, c.want) {
			t.Errorf("All(% x): %x; want %x", c.b, l, c.want)
		}
	}
}

func TestP1001BytesThatAreNone(t *testing.T) {
	const bad = utf.Bad
	for _, c := range []struct {
		b    string
		want []rune
	}{
		{"\x80", []rune{bad}},
		{"\xBF\xBF", []rune{bad, bad}},
		{"\xC0\xAF", []rune{bad, bad}},
		{"\xC1\xBF", []rune{bad, bad}},
		{"\xF5\x80\x80\x80", []rune{bad, bad, bad, bad}},
		{"\xFE\xFF", []rune{bad, bad}},
		{"\xE0\x9F\xBF", []rune{bad, bad, bad}}, // too long
		{"\xF0\x8F\xBF\xBF", []rune{bad, bad, bad, bad}},
		{"\xED\xA0\x80", []rune{bad, bad, bad}},          // D800
		{"\xF4\x90\x80\x80", []rune{bad, bad, bad, bad}}, // 110000
		{"\xC3", []rune{bad}},
		{"\xE2\x82", []rune{bad}}, // one for all that wait
		{"\xF0\x9F\x98", []rune{bad}},
		{"\xC3a", []rune{bad, 'a'}},
		{"\xE2\x82\xC3\xA9", []rune{bad, 0xE9}}, // what breaks it off begins anew
		{"\xF0\x9F\x98\xE2\x82\xAC", []rune{bad, 0x20AC}},
		{"\xE2\x82\xFFb", []rune{bad, bad, 'b'}},
		{"\xC3\xC3\xC3", []rune{bad, bad, bad}},
		{"\xC3\x1B[", []rune{bad, 0x1B, '['}},
	} {
		if l := utf.All([]byte(c.b)); !slices.Equal(l, c.want) {
			t.Errorf("All(% x): %x; want %x", c.b, l, c.want)
		}
	}
}

func TestP1001EachCharacter(t *testing.T) {
	for r := rune(0); r <= 0x10FFFF; r++ {
		b := utf.Encode(r)
		if want := string(r); string(b) != want {
			t.Fatalf("Encode(%x): % x; want % x", r, b, want)
		}
		want := r
		if 0xD800 <= r && r <= 0xDFFF {
			want = utf.Bad
		}
		if l := utf.All(b); !slices.Equal(l, []rune{want}) {
			t.Fatalf("All(% x): %x; want %x", b, l, want)
		}
	}
}

func TestP1001WhatPutTells(t *testing.T) {
	for _, c := range []struct {
		b     string
		each  [][]rune
		waits []bool
	}{
		{"a", [][]rune{{'a'}}, []bool{false}},
		{"\xF0\x9F\x98\x80", [][]rune{nil, nil, nil, {0x1F600}}, []bool{true, true, true, false}},
		{"\xE2\x82\xAC", [][]rune{nil, nil, {0x20AC}}, []bool{true, true, false}},
		{"\xC3\xA9\xA9", [][]rune{nil, {0xE9}, {utf.Bad}}, []bool{true, false, false}},
		{"\xC3\xC3", [][]rune{nil, {utf.Bad}}, []bool{true, true}},
		{"\xC3\x00", [][]rune{nil, {utf.Bad, 0}}, []bool{true, false}},
		{"\xE2\x82\xFF", [][]rune{nil, nil, {utf.Bad, utf.Bad}}, []bool{true, true, false}},
		{"\xE0\x80", [][]rune{nil, {utf.Bad, utf.Bad}}, []bool{true, false}},
	} {
		d := utf.New()
		for i := range len(c.b) {
			if l := d.Put(c.b[i]); !slices.Equal(l, c.each[i]) || d.Waits() != c.waits[i] {
				t.Errorf("% x: Put %d: %x, waits %v", c.b, i, l, d.Waits())
			}
		}
	}
}

func TestP1001EachTwoBytesAndEdges(t *testing.T) {
	for i := range 256 {
		whole(t, []byte{byte(i)})
		for j := range 256 {
			whole(t, []byte{byte(i), byte(j)})
			for _, k := range edges {
				whole(t, []byte{byte(i), byte(j), k})
			}
		}
	}
}

func TestP1001FourBytesAndMoreOfEdges(t *testing.T) {
	s := numbers(1)
	for _, i := range edges {
		for _, j := range edges {
			for _, k := range edges {
				for _, l := range edges {
					whole(t, []byte{i, j, k, l, byte(s.below(256))})
				}
			}
		}
	}
}

func TestP1001AnyBytes(t *testing.T) {
	s := numbers(2)
	for range 3000 {
		whole(t, s.bytes(s.below(40)))
	}
}

func TestP1001EndInBetween(t *testing.T) {
	d := utf.New()
	if l := d.End(); len(l) != 0 || d.Waits() {
		t.Errorf("End of nothing: %x", l)
	}
	d.Put(0xE2)
	d.Put(0x82)
	if l := d.End(); !slices.Equal(l, []rune{utf.Bad}) || d.Waits() {
		t.Errorf("End: %x, waits %v", l, d.Waits())
	}
	if l := d.Put(0xAC); !slices.Equal(l, []rune{utf.Bad}) || d.Waits() { // nothing is left of what waited
		t.Errorf("Put: %x, waits %v", l, d.Waits())
	}
	d.Put(0xC3)
	if l := d.Put(0xA9); !slices.Equal(l, []rune{0xE9}) {
		t.Errorf("Put: %x", l)
	}
}

func TestP1001DecodersByThemselves(t *testing.T) {
	a, b := utf.New(), utf.New()
	a.Put(0xF0)
	b.Put(0xC3)
	a.Put(0x9F)
	if l := b.Put(0xA9); !slices.Equal(l, []rune{0xE9}) || b.Waits() || !a.Waits() {
		t.Errorf("Put: %x", l)
	}
	a.Put(0x98)
	if l := a.Put(0x80); !slices.Equal(l, []rune{0x1F600}) {
		t.Errorf("Put: %x", l)
	}
}

func TestP1001Encode(t *testing.T) {
	for _, c := range []struct {
		r    rune
		want string
	}{
		{0, "\x00"}, {0x7F, "\x7F"}, {0x80, "\xC2\x80"}, {0x7FF, "\xDF\xBF"}, {0x800, "\xE0\xA0\x80"},
		{0xD7FF, "\xED\x9F\xBF"}, {0xE000, "\xEE\x80\x80"}, {0xFFFF, "\xEF\xBF\xBF"},
		{0x10000, "\xF0\x90\x80\x80"}, {0x10FFFF, "\xF4\x8F\xBF\xBF"},
		{-1, "\xEF\xBF\xBD"}, {math.MinInt32, "\xEF\xBF\xBD"}, {math.MaxInt32, "\xEF\xBF\xBD"},
		{0xD800, "\xEF\xBF\xBD"}, {0xDFFF, "\xEF\xBF\xBD"}, {0x110000, "\xEF\xBF\xBD"},
	} {
		if b := utf.Encode(c.r); string(b) != c.want {
			t.Errorf("Encode(%x): % x; want % x", c.r, b, c.want)
		}
		if b := utf.Encode('a', c.r, 0x20AC); string(b) != "a"+c.want+"\xE2\x82\xAC" {
			t.Errorf("Encode of three, %x within: % x", c.r, b)
		}
	}
	if b := utf.Encode(); len(b) != 0 {
		t.Errorf("Encode(): % x", b)
	}
}

// spoilt fills a list and its spare room with something else.
func spoilt[E byte | rune](l []E) {
	l = l[:cap(l)]
	for i := range l {
		l[i] = 0x55
	}
}

// TestP1001NothingShared holds P2: an answer is nobody else's, and what is handed in stays as it is.
func TestP1001NothingShared(t *testing.T) {
	s := numbers(3)
	b := s.bytes(200)
	before := bytes.Clone(b[:cap(b)])
	first := utf.All(b)
	want := slices.Clone(first)
	spoilt(utf.All(b))
	if !slices.Equal(first, want) || !slices.Equal(utf.All(b), want) || !bytes.Equal(b[:cap(b)], before) {
		t.Error("All shares")
	}
	l := slices.Grow([]rune{'a', -1, 0x20AC}, 5)
	kept := slices.Clone(l[:cap(l)])
	text := utf.Encode(l...)
	spoilt(utf.Encode(l...))
	if string(text) != "a\uFFFD\u20AC" || !slices.Equal(l[:cap(l)], kept) {
		t.Error("Encode shares")
	}
	d, told := utf.New(), []rune(nil)
	for _, c := range b {
		answer := d.Put(c)
		told = append(told, answer...)
		spoilt(answer)
	}
	last := d.End()
	told = append(told, last...)
	spoilt(last)
	if !slices.Equal(told, want) {
		t.Error("Put shares")
	}
}

// width is P1002, word by word.
func width(r rune) int {
	in := func(from, to rune) bool { return r >= from && r <= to }
	switch {
	case r < 0x20, in(0x7F, 0x9F), in(0x300, 0x36F), in(0x200B, 0x200F), in(0xFE00, 0xFE0F):
		return 0
	case in(0x1100, 0x115F), in(0x2E80, 0xA4CF), in(0xAC00, 0xD7A3), in(0xF900, 0xFAFF), in(0xFE30, 0xFE6F),
		in(0xFF00, 0xFF60), in(0xFFE0, 0xFFE6), in(0x1F300, 0x1FAFF), in(0x20000, 0x3FFFD):
		return 2
	case in(0xD800, 0xDFFF), r > 0x10FFFF:
		return 0
	}
	return 1
}

func TestP1002EachCharacter(t *testing.T) {
	for r := rune(-300); r <= 0x110100; r++ {
		if w := utf.Width(r); w != width(r) {
			t.Fatalf("Width(%x): %d; want %d", r, w, width(r))
		}
	}
}

func TestP1002Edges(t *testing.T) {
	for _, c := range []struct {
		r    rune
		want int
	}{
		{math.MinInt32, 0}, {-1, 0}, {0, 0}, {0x1F, 0}, {0x20, 1}, {0x7E, 1}, {0x7F, 0}, {0x9F, 0}, {0xA0, 1},
		{0x2FF, 1}, {0x300, 0}, {0x36F, 0}, {0x370, 1}, {0x10FF, 1}, {0x1100, 2}, {0x115F, 2}, {0x1160, 1},
		{0x200A, 1}, {0x200B, 0}, {0x200F, 0}, {0x2010, 1}, {0x2E7F, 1}, {0x2E80, 2}, {0xA4CF, 2}, {0xA4D0, 1},
		{0xABFF, 1}, {0xAC00, 2}, {0xD7A3, 2}, {0xD7A4, 1}, {0xD7FF, 1}, {0xD800, 0}, {0xDFFF, 0}, {0xE000, 1},
		{0xF8FF, 1}, {0xF900, 2}, {0xFAFF, 2}, {0xFB00, 1}, {0xFDFF, 1}, {0xFE00, 0}, {0xFE0F, 0}, {0xFE10, 1},
		{0xFE2F, 1}, {0xFE30, 2}, {0xFE6F, 2}, {0xFE70, 1}, {0xFEFF, 1}, {0xFF00, 2}, {0xFF60, 2}, {0xFF61, 1},
		{0xFFDF, 1}, {0xFFE0, 2}, {0xFFE6, 2}, {0xFFE7, 1}, {utf.Bad, 1}, {0xFFFF, 1}, {0x1F2FF, 1}, {0x1F300, 2},
		{0x1FAFF, 2}, {0x1FB00, 1}, {0x1FFFF, 1}, {0x20000, 2}, {0x3FFFD, 2}, {0x3FFFE, 1}, {0x10FFFF, 1},
		{0x110000, 0}, {math.MaxInt32, 0},
	} {
		if w := utf.Width(c.r); w != c.want {
			t.Errorf("Width(%x): %d; want %d", c.r, w, c.want)
		}
	}
}

// signs are P1003's, as they stand there, from 5F on.
const signs = "00A0 25C6 2592 2409 240C 240D 240A 00B0 00B1 2424 240B 2518 2510 250C 2514 253C 23BA 23BB 2500 23BC 23BD 251C 2524 2534 252C 2502 2264 2265 03C0 2260 00A3 00B7"

func TestP1003EachByteOfEachSet(t *testing.T) {
	for set := range 256 {
		for b := range 256 {
			want := rune(b)
			if set == '0' && b >= 0x5F && b <= 0x7E {
				at := (b - 0x5F) * 5
				n, err := strconv.ParseInt(signs[at:at+4], 16, 32)
				if err != nil {
					t.Fatal(err)
				}
				want = rune(n)
			}
			if r := utf.Graphic(byte(set), byte(b)); r != want {
				t.Fatalf("Graphic(%x, %x): %x; want %x", set, b, r, want)
			}
		}
	}
}

func TestP1003Edges(t *testing.T) {
	for _, c := range []struct {
		set, b byte
		want   rune
	}{
		{'0', '^', '^'}, {'0', '_', 0xA0}, {'0', '`', 0x25C6}, {'0', 'q', 0x2500}, {'0', 'x', 0x2502},
		{'0', '}', 0xA3}, {'0', '~', 0xB7}, {'0', 0x7F, 0x7F}, {'0', 0, 0}, {'0', 0xFF, 0xFF},
		{'B', 'q', 'q'}, {0, 'q', 'q'}, {'1', '~', '~'}, {'B', 0x80, 0x80},
	} {
		if r := utf.Graphic(c.set, c.b); r != c.want {
			t.Errorf("Graphic(%c, %x): %x; want %x", c.set, c.b, r, c.want)
		}
	}
}
