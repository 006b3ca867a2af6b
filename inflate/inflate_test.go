package inflate_test

import (
	"bytes"
	"compress/flate"
	"io"
	"math"
	"reflect"
	"slices"
	"strings"
	"testing"

	"phosphor/api"
	"phosphor/inflate"
)

// brief is a stream's front, for what a test tells.
func brief(b []byte) []byte { return b[:min(len(b), 24)] }

// decoder fails unless New takes most.
func decoder(t *testing.T, most int) *inflate.Decoder {
	t.Helper()
	d, e := inflate.New(most)
	if e != api.OK || d == nil {
		t.Fatalf("New(%d): %v", most, e)
	}
	return d
}

// tells fails unless Inflate answers just that.
func tells(t *testing.T, b []byte, most int, want []byte, used int, fault api.Errno) {
	t.Helper()
	out, n, e := inflate.Inflate(b, most)
	if e != fault || fault == api.OK && (n != used || !bytes.Equal(out, want)) {
		t.Fatalf("P501: %d bytes, % x, most %d: %d bytes, %d, %v; want %d, %d, %v", len(b), brief(b), most, len(out), n, e, len(want), used, fault)
	}
	if fault != api.OK && (n != 0 || len(out) != 0) { // P4
		t.Fatalf("P501: % x: %d bytes and %d beside %v", brief(b), len(out), n, e)
	}
}

// counts fails unless the decoder tells just these.
func counts(t *testing.T, d *inflate.Decoder, done bool, used, total int) {
	t.Helper()
	if d.Done() != done || d.Used() != used || d.Total() != total {
		t.Fatalf("P502: Done %v, Used %d, Total %d; want %v, %d, %d", d.Done(), d.Used(), d.Total(), done, used, total)
	}
	if n := d.Room(); n < 0 || n > 1<<17 {
		t.Fatalf("P502: Room %d", n)
	}
}

// comesSo fails unless a decoder that is handed b, cut there, tells each time what the model says of all that came.
func comesSo(t *testing.T, b []byte, most int, cuts ...int) {
	t.Helper()
	d := decoder(t, most)
	at, told, used := 0, 0, 0
	fault := api.OK
	for _, cut := range append(cuts, len(b)) {
		out, e := d.Write(b[at:cut])
		at = cut
		want, n, says := says(b[:cut], most)
		if fault == api.OK && says != api.ErrShort {
			fault = says
		}
		if e != fault || fault != api.OK && len(out) != 0 || fault == api.OK && !bytes.Equal(out, want[told:]) {
			t.Fatalf("P502: % x up to %d, most %d: % x, %v; want %v, %v", brief(b), cut, most, brief(out), e, brief(want), fault)
		}
		if fault == api.OK {
			told, used = len(want), cut
		}
		if says == api.OK {
			used = n
		}
		counts(t, d, says == api.OK, used, told)
	}
}

// comes tries a stream whole, byte by byte, and cut in two or three.
func comes(t *testing.T, b []byte, most int, s *numbers) {
	t.Helper()
	want, used, e := says(b, most)
	tells(t, b, most, want, used, e)
	comesSo(t, b, most)
	var each []int
	for i := range len(b) {
		each = append(each, i)
	}
	comesSo(t, b, most, each...)
	cuts := []int{s.below(len(b) + 1), s.below(len(b) + 1)}
	slices.Sort(cuts)
	comesSo(t, b, most, cuts...)
}

// packs is the library's stream of b.
func packs(b []byte, level int, cuts ...int) []byte {
	var out bytes.Buffer
	w, err := flate.NewWriter(&out, level)
	if err != nil {
		panic(err)
	}
	at := 0
	for _, cut := range cuts {
		w.Write(b[at:cut])
		w.Flush() // an empty stored block
		at = cut
	}
	w.Write(b[at:])
	w.Close()
	return out.Bytes()
}

// texts are bytes of several sorts.
func texts() map[string][]byte {
	s := numbers(1)
	words := []byte{}
	for len(words) < 200000 {
		words = append(words, []string{"phosphor ", "glows ", "on, and on; ", "\n", "terminal ", "\x00\x01\xFF"}[s.below(6)]...)
	}
	return map[string][]byte{
		"nothing":  nil,
		"one":      {7},
		"letters":  []byte("hello, hello, hello\xff\x90"),
		"words":    words,
		"noise":    s.bytes(150000),
		"zeros":    make([]byte, 300000),
		"far":      slices.Concat(s.bytes(300), make([]byte, 32768-300), s.bytes(300), words[:40000]),
		"farthest": bytes.Repeat(s.bytes(32768), 3),
	}
}

func TestP501StreamsOfTheLibrary(t *testing.T) {
	for name, want := range texts() {
		for _, level := range []int{flate.HuffmanOnly, 0, 1, 2, 5, 6, 9} {
			for _, cuts := range [][]int{nil, {len(want) / 3, len(want) / 2, len(want) / 2}} {
				b := packs(want, level, cuts...)
				out, n, e := inflate.Inflate(b, len(want))
				if e != api.OK || n != len(b) || !bytes.Equal(out, want) {
					t.Errorf("%s, level %d: %d bytes, %d of %d, %v", name, level, len(out), n, len(b), e)
				}
				if out, n, e := inflate.Inflate(slices.Concat(b, b), 1<<30); e != api.OK || n != len(b) || !bytes.Equal(out, want) {
					t.Errorf("%s, level %d, and more behind: %d bytes, %d, %v", name, level, len(out), n, e)
				}
				if len(want) > 0 {
					tells(t, b, len(want)-1, nil, 0, api.ErrLong)
				}
				tells(t, b[:len(b)-1], 1<<30, nil, 0, api.ErrShort)
			}
		}
	}
}

func TestP501AllShortStreams(t *testing.T) {
	s := numbers(2)
	for v := range 1 << 16 {
		for n := range 3 {
			if v>>(8*n) != 0 {
				continue
			}
			b := []byte{byte(v), byte(v >> 8)}[:n]
			want, used, e := says(b, 1)
			tells(t, b, 1, want, used, e)
		}
		b := []byte{byte(v), byte(v >> 8), byte(s.below(256)), byte(s.below(256))}
		want, used, e := says(b, 1<<30)
		tells(t, b, 1<<30, want, used, e)
		if v%16 == 0 {
			comes(t, b, s.below(4), &s)
		}
	}
}

func TestP501AnyStreams(t *testing.T) {
	s := numbers(3)
	seen := map[api.Errno]int{}
	for i := range 3000 {
		b := s.stream(4, 30)
		if i%2 == 0 { // faults in most of them
			for range 1 + s.below(3) {
				b[s.below(len(b))] ^= 1 << s.below(8)
			}
		}
		most := 1 << 30
		if s.below(4) == 0 {
			most = s.below(300)
		}
		if s.below(4) == 0 {
			b = append(b, s.bytes(s.below(5))...)
		}
		want, used, e := says(b, most)
		seen[e]++
		tells(t, b, most, want, used, e)
		if i%20 == 0 {
			comes(t, b[:min(len(b), 300)], most, &s)
		} else {
			comesSo(t, b, most, s.below(len(b)))
		}
	}
	for _, e := range []api.Errno{api.OK, api.ErrShort, api.ErrForm, api.ErrLong} {
		if seen[e] < 50 {
			t.Errorf("%v came %d times alone", e, seen[e])
		}
	}
}

func TestP501AnyLongStreams(t *testing.T) {
	s := numbers(4)
	right := 0
	for range 150 {
		b := s.stream(12, 2000)
		want, used, e := says(b, 1<<30)
		tells(t, b, 1<<30, want, used, e)
		comesSo(t, b, 1<<30, len(b)/2)
		if e == api.OK {
			right++
			tells(t, b, len(want), want, used, e)
			if len(want) > 0 {
				tells(t, b, len(want)-1, nil, 0, api.ErrLong)
			}
		}
	}
	if right < 40 || right > 130 {
		t.Errorf("%d streams were right", right)
	}
}

func TestP501Most(t *testing.T) {
	empty := []byte{3, 0}
	for _, most := range []int{-1, -1 << 30, 1<<30 + 1, math.MinInt, math.MaxInt} {
		for _, b := range [][]byte{nil, empty, {7}} { // ahead of all else
			tells(t, b, most, nil, 0, api.ErrArg)
		}
		if d, e := inflate.New(most); d != nil || e != api.ErrArg {
			t.Errorf("New(%d): %v, %v", most, d, e)
		}
	}
	for _, most := range []int{0, 1, 1<<30 - 1, 1 << 30} {
		tells(t, empty, most, nil, 2, api.OK)
		counts(t, decoder(t, most), false, 0, 0)
	}
}

// isShort fails unless all that is fewer than b is short; of a long b only the ends are tried.
func isShort(t *testing.T, what string, b []byte, most int) {
	t.Helper()
	for i := range b {
		if i >= 40 && i < len(b)-400 {
			continue
		}
		if out, n, e := inflate.Inflate(b[:i], most); e != api.ErrShort || n != 0 || len(out) != 0 {
			t.Errorf("P501: %s: %d bytes of %d: %d bytes, %d, %v; want short", what, i, len(b), len(out), n, e)
		}
	}
}

// faulty fails unless the stream has that fault as soon as all its bits are there, whatever comes behind.
func faulty(t *testing.T, what, text string, most int, fault api.Errno) {
	t.Helper()
	b := packed(text)
	for _, behind := range [][]byte{nil, {0}, {0xFF, 0xFF, 0xFF}} {
		out, n, e := inflate.Inflate(slices.Concat(b, behind), most)
		if e != fault || n != 0 || len(out) != 0 {
			t.Errorf("P501: %s: %d bytes, %d, %v; want %v", what, len(out), n, e, fault)
		}
	}
	isShort(t, what, b, most)
	if len(b) < 400 {
		s := numbers(len(text))
		comes(t, b, most, &s)
	}
}

// right fails unless the stream says that, and takes all its bytes and none behind.
func right(t *testing.T, what, text string, want []byte) {
	t.Helper()
	b := packed(text)
	out, n, e := inflate.Inflate(append(slices.Clone(b), 0xFF), len(want))
	if e != api.OK || n != len(b) || !bytes.Equal(out, want) {
		t.Errorf("P501: %s: % x, %d of %d, %v", what, brief(out), n, len(b), e)
	}
	isShort(t, what, b, len(want))
	if len(b) < 400 {
		s := numbers(len(text))
		comes(t, b, len(want), &s)
	}
}

// plenty is more than whatever a test says.
const plenty = 1 << 20

func TestP501Kinds(t *testing.T) {
	faulty(t, "kind 3, the last one", "1 11", plenty, api.ErrForm)
	faulty(t, "kind 3", "0 11", plenty, api.ErrForm)
	faulty(t, "kind 3 behind a block", "0 10 0000000 0 11", plenty, api.ErrForm)
	right(t, "a fixed one of nothing", "1 10 0000000", nil)
	right(t, "two of nothing", "0 10 0000000 1 10 0000000", nil)
	text := bare("0 10 00110001 0000000" + plain("0", lengthsOf(257, map[int]byte{2: 1, 256: 1}), []byte{0}) + "0 1")
	right(t, "one of each kind", text+stored(len(text), "1", []byte{3}, "1"), []byte{1, 2, 3})
}

func TestP501Stored(t *testing.T) {
	s := numbers(5)
	right(t, "one of nothing", stored(0, "1", nil, "0"), nil)
	right(t, "bits that are passed over", stored(0, "1", []byte("ab"), "1"), []byte("ab"))
	right(t, "two", stored(0, "0", []byte{9}, "1")+stored(0, "1", []byte{8}, "0"), []byte{9, 8})
	most := s.bytes(65535)
	right(t, "the longest one", stored(0, "1", most, "0"), most)
	for _, n := range []int{0, 1, 255, 256, 0x1234, 65534, 65535} {
		for i := range 16 {
			faulty(t, "a length that does not fit", "100 00000"+number(n, 16)+number(^n^1<<i, 16), plenty, api.ErrForm)
		}
		faulty(t, "the length twice", "100 00000"+number(n, 16)+number(n, 16), plenty, api.ErrForm)
	}
	code := dealt(fixedLiterals())[200]
	for n := range 8 { // codes of nine bits: the block begins at each bit of a byte
		text := "010" + strings.Repeat(code, n) + "0000000"
		want := append(bytes.Repeat([]byte{200}, n), 1, 2)
		right(t, "behind a fixed one", text+stored(len(text), "1", []byte{1, 2}, "1"), want)
	}
}

// lengthsOf is n lengths, these ones not 0.
func lengthsOf(n int, these map[int]byte) []byte {
	l := make([]byte, n)
	for symbol, length := range these {
		l[symbol] = length
	}
	return l
}

func TestP501Counts(t *testing.T) {
	for literals := 257; literals <= 288; literals++ {
		for distances := 1; distances <= 32; distances++ {
			if literals > 286 || distances > 30 {
				text := "1 01" + number(literals-257, 5) + number(distances-1, 5) + number(15, 4)
				faulty(t, "more than there are", text, plenty, api.ErrForm)
				continue
			}
			text := plain("1", lengthsOf(literals, map[int]byte{5: 1, 256: 1}), make([]byte, distances)) + "0 1"
			tells(t, packed(text), 1, []byte{5}, len(packed(text)), api.OK)
		}
	}
	for _, b := range []string{"\xfd", "\x05\xff", "\xfd\xff"} { // all three numbers must be there
		tells(t, []byte(b), 9, nil, 0, api.ErrShort)
	}
}

// ownOnly is a dynamic block's front up to the code of lengths.
func ownOnly(l ...int) string {
	text := "1 01" + number(0, 5) + number(0, 5) + number(len(l)-4, 4)
	for _, n := range l {
		text += number(n, 3)
	}
	return text
}

func TestP501CodesOfLengthsThatCannotBe(t *testing.T) {
	for _, c := range []struct{ what, text string }{
		{"more", ownOnly(1, 1, 1, 0)},
		{"more, of seven bits", ownOnly(1, 1, 0, 0, 7)},
		{"more, all of them", ownOnly(7, 7, 7, 1, 1, 7, 7, 7, 7, 7, 7, 7, 7, 7, 7, 7, 7, 7, 7)},
		{"fewer", ownOnly(1, 2, 0, 0)},
		{"one alone, of two bits", ownOnly(0, 0, 0, 2)},
		{"none", ownOnly(0, 0, 0, 0)},
		{"one alone, and no such code", ownOnly(0, 0, 0, 1) + "1"},
		{"one alone, no code for the end", ownOnly(0, 0, 0, 1) + strings.Repeat("0", 258)},
	} {
		faulty(t, c.what, c.text, plenty, api.ErrForm)
	}
}

func TestP501CodesThatCannotBe(t *testing.T) {
	ends := map[int]byte{0: 1, 256: 1}
	for _, c := range []struct {
		what                string
		literals, distances []byte
	}{
		{"literals: more", lengthsOf(257, map[int]byte{0: 1, 1: 1, 256: 1}), []byte{0}},
		{"literals: more, of 15 bits", lengthsOf(257, map[int]byte{0: 1, 1: 15, 256: 1}), []byte{0}},
		{"literals: fewer", lengthsOf(257, map[int]byte{0: 1, 256: 2}), []byte{0}},
		{"literals: one alone, of two bits", lengthsOf(257, map[int]byte{256: 2}), []byte{0}},
		{"literals: none", make([]byte, 257), []byte{0}},
		{"no code for the end", lengthsOf(257, map[int]byte{0: 1, 255: 1}), []byte{0}},
		{"no code for the end, but beyond", lengthsOf(258, map[int]byte{0: 1, 257: 1}), []byte{1, 1}},
		{"no code for the end: one alone", lengthsOf(257, map[int]byte{0: 1}), []byte{0}},
		{"distances: more", lengthsOf(257, ends), []byte{1, 1, 1}},
		{"distances: fewer", lengthsOf(257, ends), []byte{1, 2}},
		{"distances: one alone, of two bits", lengthsOf(257, ends), []byte{0, 2}},
		{"distances: one alone, of 15 bits", lengthsOf(257, ends), []byte{15}},
	} {
		faulty(t, c.what, plain("1", c.literals, c.distances), plenty, api.ErrForm)
	}
	alone := plain("1", lengthsOf(257, map[int]byte{256: 1}), []byte{0})
	right(t, "the end alone", alone+"0", nil)
	faulty(t, "the end alone, and no such code", alone+"1", plenty, api.ErrForm)
}

func TestP501Repeats(t *testing.T) {
	own := lengthsOf(19, map[int]byte{0: 2, 1: 2, 16: 3, 17: 3, 18: 2})
	text := func(distances int, all ...said) string { return head("1", 257, distances, own, all) }
	is := func(all ...said) []said { // behind 138 and 118 times 0
		return append([]said{{18, 127, 7}, {18, 107, 7}}, all...)
	}
	zero, one := said{0, 0, 0}, said{1, 0, 0}
	for _, c := range []struct {
		what      string
		distances int // just as many as there are; one fewer, and the last repeat goes beyond
		all       []said
	}{
		{"0 four times", 4, is(one, said{17, 1, 3})},
		{"0 ten times", 10, is(one, said{17, 7, 3})},
		{"0 eleven times", 11, is(one, said{18, 0, 7})},
		{"0 thirty times", 30, is(one, said{18, 19, 7})},
		{"the one ahead, three times", 5, is(one, zero, zero, said{16, 0, 2})},
		{"the one ahead, six times", 7, is(one, zero, said{16, 3, 2})},
		{"the ones ahead", 10, is(one, zero, said{16, 0, 2}, said{16, 3, 2})},
	} {
		right(t, c.what, text(c.distances, c.all...)+"0", nil)
		faulty(t, c.what+", one beyond", text(c.distances-1, c.all...), plenty, api.ErrForm)
	}
	faulty(t, "0 138 times, beyond", text(30, is(one, said{18, 127, 7})...), plenty, api.ErrForm)
	right(t, "no repeat at the end", text(2, is(one, one, one)...)+"0", nil)
	faulty(t, "1 too often", text(4, is(one, one, said{16, 0, 2})...), plenty, api.ErrForm)
}

// fill is these numbers, and 0 behind them: n in all.
func fill(n int, these ...int) []int { return append(these, make([]int, n-len(these))...) }

func TestP501RepeatsWithNoneAhead(t *testing.T) {
	for n := 8; n <= 19; n++ { // the symbol ends at each bit of a byte, so none to seven are there behind it
		for _, c := range []struct {
			what, code string
			own        []int
		}{
			{"none ahead", "0", []int{1, 1}},
			{"none ahead, two bits", "10", []int{2, 1, 2}},
			{"none ahead, seven bits", "1111110", []int{7, 7, 6, 1, 2, 3, 4, 5}},
		} {
			faulty(t, c.what, ownOnly(fill(n, c.own...)...)+c.code, plenty, api.ErrForm)
		}
	}
	b := []byte{0x05, 0x60, 0x12, 0, 0}
	if x := packed(ownOnly(fill(7, 1, 1)...) + "0 0"); !bytes.Equal(x, b) {
		t.Fatalf("% x; want % x", x, b)
	}
	tells(t, b, 100, nil, 0, api.ErrForm)
	tells(t, b[:4], 100, nil, 0, api.ErrShort)
	d := decoder(t, 100)
	for _, c := range b[:4] {
		if out, e := d.Write([]byte{c}); len(out) != 0 || e != api.OK {
			t.Fatalf("P502: % x, %v", out, e)
		}
	}
	for _, c := range [][]byte{b[4:], nil, {0}} {
		if out, e := d.Write(c); len(out) != 0 || e != api.ErrForm {
			t.Errorf("P502: the byte with the symbol, and behind: % x, %v", out, e)
		}
		counts(t, d, false, 4, 0)
	}
}

func TestP501RepeatsBeyondNeedTheirBits(t *testing.T) {
	for n := 4; n <= 19; n++ { // likewise at each bit; the symbol alone, of 11 at least, is short
		front := ownOnly(fill(n, 0, 1, 1)...) + "1" + number(127, 7) + "1" + number(107, 7) + "1"
		faulty(t, "0 eleven times, two being left", front+number(0, 7), plenty, api.ErrForm)
		tells(t, packed(front)[:len(bare(front))/8], plenty, nil, 0, api.ErrShort)
	}
}

func TestP501RepeatsAcross(t *testing.T) {
	own := lengthsOf(19, map[int]byte{0: 2, 2: 2, 16: 2, 18: 2})
	two := said{2, 0, 0}
	all := []said{{18, 127, 7}, {18, 105, 7}, two, {16, 3, 2}, two} // of 254; 255 to 257 and three distances; one more
	text := head("1", 258, 4, own, all)
	right(t, "of literals and of distances", text+"00 01 1101 1111 10", []byte{254, 255, 254, 255, 254, 255, 254, 255})
}

func TestP501SymbolsThatAreNone(t *testing.T) {
	faulty(t, "286", "1 10 11000110", plenty, api.ErrForm)
	faulty(t, "287", "1 10 11000111", plenty, api.ErrForm)
	faulty(t, "286, when there may be no more", "1 10 11000110", 0, api.ErrForm)
	faulty(t, "distance 30", "1 10 00110000 0000001 11110", plenty, api.ErrForm)
	faulty(t, "distance 31", "1 10 00110000 0000001 11111", plenty, api.ErrForm)
	faulty(t, "distance 30, when there may be no more", "1 10 00110000 0000001 11110", 1, api.ErrForm)
	three := lengthsOf(258, map[int]byte{7: 2, 256: 2, 257: 1})
	right(t, "one distance alone", plain("1", three, []byte{1})+"10 0 0 11", []byte{7, 7, 7, 7})
	right(t, "another distance alone", plain("1", three, []byte{0, 1})+"10 10 0 0 11", []byte{7, 7, 7, 7, 7})
	faulty(t, "one distance alone, and no such code", plain("1", three, []byte{1})+"10 0 1", plenty, api.ErrForm)
	faulty(t, "no distances", plain("1", three, []byte{0})+"10 0", plenty, api.ErrForm)
	right(t, "no distances, and none is needed", plain("1", three, []byte{0})+"10 10 11", []byte{7, 7})
}

func TestP501AllLengths(t *testing.T) {
	l := dealt(fixedLiterals())
	for symbol := 257; symbol <= 285; symbol++ {
		least, n := lengthOf(symbol)
		for more := range 1 << n {
			text := "110" + l[9] + l[symbol] + number(more, n) + "00000" + l[256]
			want := bytes.Repeat([]byte{9}, 1+least+more)
			tells(t, packed(text), len(want), want, len(packed(text)), api.OK)
			tells(t, packed(text), len(want)-1, nil, 0, api.ErrLong)
		}
	}
}

func TestP501AllDistances(t *testing.T) {
	s := numbers(6)
	noise := s.bytes(32768)
	l, distances := dealt(fixedLiterals()), dealt(slices.Repeat([]byte{5}, 32))
	for symbol := range 30 {
		least, n := distanceOf(symbol)
		for _, more := range []int{0, s.below(1 << n), 1<<n - 1} {
			distance := least + more
			text := "110" + l[257] + distances[symbol] + number(more, n)
			just, fewer := noise[:distance], noise[:distance-1]
			want := append(slices.Clone(just), just[0], just[1%distance], just[2%distance])
			right(t, "just as far", stored(0, "0", just, "0")+text+l[256], want)
			faulty(t, "one farther", stored(0, "0", fewer, "0")+text, plenty, api.ErrForm)
		}
	}
}

func TestP501Long(t *testing.T) {
	l := dealt(fixedLiterals())
	faulty(t, "a literal", "110"+l[7], 0, api.ErrLong)
	faulty(t, "the second one", "110"+l[7]+l[200], 1, api.ErrLong)
	for most := 1; most < 259; most++ { // all bits of the distance must be there
		tells(t, packed("110"+l[7]+l[285]+"00000"), most, nil, 0, api.ErrLong)
	}
	far := l[7] + l[7] + l[7] + l[7] + l[7] + l[7]
	faulty(t, "the distance's last bit", "110"+far+l[257]+"00100 1", 6, api.ErrLong)
	faulty(t, "too far, ahead of too many", "110"+far+l[257]+"00101 1", 6, api.ErrForm)
	for most := range 100 {
		b := packed(stored(0, "1", bytes.Repeat([]byte{3}, 100), "0"))
		tells(t, b[:5+most], most, nil, 0, api.ErrShort) // the first one that is too many must be there
		tells(t, b[:5+most+1], most, nil, 0, api.ErrLong)
		tells(t, b, most, nil, 0, api.ErrLong)
	}
	full := stored(0, "0", []byte{3}, "0")
	faulty(t, "a fault behind all that may be", full+"1 11", 1, api.ErrForm)
	faulty(t, "one more behind all that may be", full+"110"+l[0], 1, api.ErrLong)
	faulty(t, "one more of another stored one", full+stored(0, "1", []byte{4}, "0"), 1, api.ErrLong)
	tells(t, packed(full+stored(0, "0", nil, "0")+"1100000000"), 1, []byte{3}, 13, api.OK)
}

func TestP501KeepsNothing(t *testing.T) { // P2, P3
	b := packs(texts()["words"], 6)
	room := append(slices.Clone(b), 1, 2, 3, 4)
	first, n, _ := inflate.Inflate(room[:len(b)+2], 1<<20)
	if !bytes.Equal(room, append(slices.Clone(b), 1, 2, 3, 4)) {
		t.Error("what was handed in is changed")
	}
	clear(first[:cap(first)])
	clear(room)
	second, k, e := inflate.Inflate(b, 1<<20)
	if e != api.OK || k != n || !bytes.Equal(second, texts()["words"]) {
		t.Errorf("the same again: %d bytes, %d, %v", len(second), k, e)
	}
}

func TestP502AnyPieces(t *testing.T) {
	s := numbers(7)
	for name, want := range texts() {
		for _, level := range []int{flate.HuffmanOnly, 0, 1, 9} {
			b := packs(want, level, len(want)/2)
			for _, most := range []int{1, 7, 300, 5000, 100000} {
				d := decoder(t, len(want))
				var all []byte
				for at := 0; at < len(b); {
					piece := slices.Clone(b[at:min(len(b), at+1+s.below(most))])
					at += len(piece)
					out, e := d.Write(piece)
					if e != api.OK {
						t.Fatalf("%s, level %d, up to %d of %d: %v", name, level, at, len(b), e)
					}
					all = append(all, out...)
					counts(t, d, at == len(b), at, len(all))
					clear(piece) // what was handed in is not kept, what was told not needed
					clear(out[:cap(out)])
				}
				if !bytes.Equal(all, want) {
					t.Errorf("%s, level %d, in pieces of %d: it says something else", name, level, most)
				}
			}
		}
	}
}

func TestP502NothingWritten(t *testing.T) {
	d := decoder(t, plenty)
	b := packed("0 10 00110001 0000000" + "110" + dealt(fixedLiterals())[9] + "0000000")
	for i := range b {
		for _, nothing := range [][]byte{nil, {}} {
			if out, e := d.Write(nothing); e != api.OK || len(out) != 0 {
				t.Fatalf("nothing: % x, %v", out, e)
			}
			counts(t, d, false, i, d.Total())
		}
		d.Write(b[i : i+1])
	}
	counts(t, d, true, len(b), 2)
}

func TestP502Behind(t *testing.T) {
	for _, text := range []string{"110 0000000", stored(0, "1", []byte{1, 2}, "0"), "110 00110000 0000001 00000 0000000"} {
		b := packed(text)
		want, _, _ := says(b, plenty)
		for _, behind := range [][]byte{nil, {7}, {0, 0, 0}, make([]byte, 10000), b} {
			for _, cut := range []int{0, 1, len(b) - 1, len(b)} {
				d := decoder(t, len(want))
				first, e := d.Write(b[:cut])
				second, f := d.Write(slices.Concat(b[cut:], behind))
				if e != api.OK || f != api.OK || !bytes.Equal(slices.Concat(first, second), want) {
					t.Fatalf("% x, %d behind: % x, % x, %v", b, len(behind), first, second, f)
				}
				for range 2 {
					counts(t, d, true, len(b), len(want))
					if out, e := d.Write(behind); e != api.OK || len(out) != 0 {
						t.Fatalf("% x, behind its end: % x, %v", b, out, e)
					}
				}
			}
		}
	}
}

// whole is a fixed block of 40 bytes that ends where a byte does.
func whole(t *testing.T) []byte {
	t.Helper()
	l := dealt(fixedLiterals())
	text := "010" + strings.Repeat(l[7], 34) + strings.Repeat(l[200], 6) + l[256]
	if len(text)%8 != 0 {
		t.Fatalf("%d bits", len(text))
	}
	return packed(text)
}

func TestP502FaultsStay(t *testing.T) {
	l := dealt(fixedLiterals())
	front := whole(t)
	for _, c := range []struct {
		text string
		e    api.Errno
	}{
		{"1 11", api.ErrForm},
		{"100 00000" + number(1, 16) + number(1, 16), api.ErrForm},
		{"110" + l[1] + l[2] + l[257] + "11111", api.ErrForm},
		{"110" + strings.Repeat(l[3], 11), api.ErrLong},
		{stored(0, "1", make([]byte, 20000), "0"), api.ErrLong},
		{stored(0, "0", make([]byte, 10), "0") + stored(0, "0", nil, "0") + stored(0, "0", make([]byte, 1), "0"), api.ErrLong},
	} {
		bad := packed(c.text)
		d, other := decoder(t, 50), decoder(t, 50)
		d.Write(front)
		room := d.Room()
		for _, b := range [][]byte{bad, bad, nil, {3, 0}, make([]byte, 9000), front} {
			if out, e := d.Write(b); e != c.e || len(out) != 0 {
				t.Fatalf("P502: % x: % x, %v; want %v", brief(b), out, e, c.e)
			}
			counts(t, d, false, len(front), 40) // P5
			if d.Room() != room {
				t.Fatalf("P502: Room %d; was %d", d.Room(), room)
			}
		}
		if out, e := other.Write(slices.Concat(front, bad)); e != c.e || len(out) != 0 { // P4
			t.Fatalf("P502: % x in one: % x, %v; want %v", brief(bad), out, e, c.e)
		}
		counts(t, other, false, 0, 0)
	}
}

func TestP502LongAsItComes(t *testing.T) {
	b := packed(stored(0, "1", bytes.Repeat([]byte{5}, 60), "0"))
	d := decoder(t, 50)
	if out, e := d.Write(b[:55]); e != api.OK || !bytes.Equal(out, bytes.Repeat([]byte{5}, 50)) {
		t.Errorf("all that may be: % x, %v", out, e)
	}
	if out, e := d.Write(nil); e != api.OK || len(out) != 0 {
		t.Errorf("nothing: % x, %v", out, e)
	}
	counts(t, d, false, 55, 50)
	if out, e := d.Write(b[55:56]); e != api.ErrLong || len(out) != 0 {
		t.Errorf("one more: % x, %v", out, e)
	}
	counts(t, d, false, 55, 50)
}

// held is the room of all slices of what v has, once each.
func held(v reflect.Value) (n int) {
	switch v.Kind() {
	case reflect.Pointer:
		if !v.IsNil() {
			n = held(v.Elem())
		}
	case reflect.Struct:
		for i := range v.NumField() {
			n += held(v.Field(i))
		}
	case reflect.Slice:
		n = v.Cap() * int(v.Type().Elem().Size())
	}
	return n
}

func TestP502Room(t *testing.T) {
	s := numbers(8)
	for name, want := range texts() {
		b := packs(want, 6, len(want)/2)
		for _, fault := range []bool{false, true} {
			if fault {
				b[len(b)*2/3] ^= 0x55
			}
			d := decoder(t, 1<<30)
			for at := 0; at < len(b); {
				n := min(1+s.below(1+s.below(100000)), len(b)-at)
				d.Write(b[at : at+n])
				at += n
				if room := held(reflect.ValueOf(d)); d.Room() != room || room > 1<<17 {
					t.Fatalf("%s: Room %d; its slices have %d", name, d.Room(), room)
				}
			}
		}
	}
}

func TestP502OwnObjects(t *testing.T) { // P3, P7
	b := packs([]byte("to and fro, to and fro"), 9)
	first, second := decoder(t, plenty), decoder(t, plenty)
	for i := range b {
		x, e := first.Write(b[i : i+1])
		y, f := second.Write(b[i : i+1])
		if e != api.OK || f != api.OK || !bytes.Equal(x, y) {
			t.Fatalf("at %d: % x, %v; % x, %v", i, x, e, y, f)
		}
	}
	other := decoder(t, plenty) // a repeat reaches nothing of the others'
	if out, e := other.Write(packed("110 0000001 00000")); e != api.ErrForm || len(out) != 0 {
		t.Errorf("% x, %v", out, e)
	}
}

func TestP502ADecoderOfNoNew(t *testing.T) { // P1: as one of New(0)
	for _, c := range []struct {
		b []byte
		e api.Errno
	}{{[]byte{3, 0}, api.OK}, {packed("110 00110000"), api.ErrLong}, {packed(stored(0, "1", []byte{1}, "0")), api.ErrLong}, {[]byte{7}, api.ErrForm}} {
		var d inflate.Decoder
		for i := range c.b {
			if _, e := d.Write(c.b[i : i+1]); e != api.OK && e != c.e {
				t.Errorf("% x: %v", c.b, e)
			}
		}
		if _, e := d.Write(nil); e != c.e || d.Done() != (e == api.OK) {
			t.Errorf("% x: %v", c.b, e)
		}
	}
}

// unpacks fails unless the library, and Inflate, read that of the stream.
func unpacks(t *testing.T, b, want []byte) {
	t.Helper()
	in := bytes.NewReader(b)
	out, err := io.ReadAll(flate.NewReader(in))
	if err != nil || !bytes.Equal(out, want) || in.Len() != 0 {
		t.Fatalf("P503: %d bytes: % x, %v, %d left", len(want), brief(out), err, in.Len())
	}
	tells(t, b, len(want), want, len(b), api.OK)
}

func TestP503Store(t *testing.T) {
	s := numbers(9)
	for _, n := range []int{0, 1, 2, 255, 65534, 65535, 65536, 65537, 131069, 131070, 131071, 200000} {
		b := s.bytes(n)
		text, rest := []byte{}, b
		for len(rest) > 65535 {
			text = append(append(text, 0, 0xFF, 0xFF, 0, 0), rest[:65535]...)
			rest = rest[65535:]
		}
		text = append(append(text, 1, byte(len(rest)), byte(len(rest)>>8), ^byte(len(rest)), ^byte(len(rest)>>8)), rest...)
		if x := inflate.Store(b); !bytes.Equal(x, text) {
			t.Errorf("Store of %d bytes: %d bytes, % x; want %d, % x", n, len(x), brief(x), len(text), brief(text))
		}
		unpacks(t, inflate.Store(b), b)
	}
	if b := inflate.Store(nil); !bytes.Equal(b, []byte{1, 0, 0, 0xFF, 0xFF}) {
		t.Errorf("Store of nothing: % x", b)
	}
}

func TestP503Fixed(t *testing.T) {
	s := numbers(10)
	every := make([]byte, 256)
	for i := range every {
		every[i] = byte(i)
	}
	l := dealt(fixedLiterals())
	for _, b := range [][]byte{nil, {}, {0}, {143, 144}, {255}, every, bytes.Repeat([]byte("again "), 1000), s.bytes(70000)} {
		var text strings.Builder
		text.WriteString("110")
		for _, c := range b {
			text.WriteString(l[c])
		}
		text.WriteString(l[256])
		if x := inflate.Fixed(b); !bytes.Equal(x, packed(text.String())) {
			t.Errorf("Fixed of % x: % x", brief(b), brief(x))
		}
		unpacks(t, inflate.Fixed(b), b)
	}
	if b := inflate.Fixed(nil); !bytes.Equal(b, []byte{3, 0}) {
		t.Errorf("Fixed of nothing: % x", b)
	}
}

func TestP503KeepsNothing(t *testing.T) { // P2, P3
	room := []byte{1, 2, 3, 4, 5, 6}
	for _, call := range []func([]byte) []byte{inflate.Store, inflate.Fixed} {
		first := call(room[:4])
		want := slices.Clone(first)
		clear(first[:cap(first)])
		if second := call(room[:4]); !bytes.Equal(second, want) {
			t.Errorf("the same again: % x; want % x", second, want)
		}
		if !bytes.Equal(room, []byte{1, 2, 3, 4, 5, 6}) {
			t.Errorf("what was handed in is changed: %v", room)
		}
	}
}
