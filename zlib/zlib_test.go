package zlib_test

import (
	"bytes"
	"compress/zlib"
	"encoding/binary"
	"hash/adler32"
	"io"
	"math"
	"reflect"
	"slices"
	"testing"

	"phosphor/api"
	"phosphor/inflate"
	phosphor "phosphor/zlib"
)

// plenty is more than whatever a test says.
const plenty = 1 << 20

// most of what a decoder may hold, by P602.
const mostRoom = 1<<17 + 64

// numbers is a short rule for numbers that look like any.
type numbers uint64

func (s *numbers) below(n int) int {
	*s = *s*6364136223846793005 + 1442695040888963407
	return int(uint32(*s>>32) % uint32(n))
}

func (s *numbers) bytes(n int) []byte {
	b := make([]byte, n)
	for i := range b {
		b[i] = byte(s.below(256))
	}
	return b
}

// texts are bytes of several sorts.
func texts() map[string][]byte {
	s := numbers(1)
	return map[string][]byte{
		"nothing":  nil,
		"one":      {0},
		"letters":  []byte("hello, hello, hello\xff\x90"),
		"words":    bytes.Repeat([]byte("phosphor glows on, and on; "), 5000),
		"noise":    s.bytes(100000),
		"zeros":    make([]byte, 70000),
		"all ones": bytes.Repeat([]byte{255}, 70000),
		"farthest": bytes.Repeat(s.bytes(32768), 3),
	}
}

// brief is a stream's front, for what a test tells.
func brief(b []byte) []byte { return b[:min(len(b), 24)] }

// whole is a stream of these parts, with the library's sum of what it says.
func whole(head, body, says []byte) []byte {
	return binary.BigEndian.AppendUint32(slices.Concat(head, body), adler32.Checksum(says))
}

// hello is a stream that says just that.
func hello() []byte {
	return whole([]byte{0x78, 0x9c}, inflate.Fixed([]byte("hello")), []byte("hello"))
}

// packs is the library's stream of b.
func packs(b []byte, level int) []byte {
	var out bytes.Buffer
	w, err := zlib.NewWriterLevel(&out, level)
	if err != nil {
		panic(err)
	}
	w.Write(b[:len(b)/2])
	w.Flush()
	w.Write(b[len(b)/2:])
	w.Close()
	return out.Bytes()
}

// says is a plain reading of P601 (but of most, which is taken to be one that may be).
func says(b []byte, most int) ([]byte, int, api.Errno) {
	if len(b) == 0 {
		return nil, 0, api.ErrShort
	}
	if b[0]%16 != 8 || b[0]/16 > 7 {
		return nil, 0, api.ErrForm
	}
	if len(b) == 1 {
		return nil, 0, api.ErrShort
	}
	if binary.BigEndian.Uint16(b)%31 != 0 || b[1]/32%2 == 1 {
		return nil, 0, api.ErrForm
	}
	out, used, e := inflate.Inflate(b[2:], most)
	if e != api.OK {
		return nil, 0, e
	}
	sum := b[2+used:]
	if len(sum) < 4 {
		return nil, 0, api.ErrShort
	}
	if binary.BigEndian.Uint32(sum) != adler32.Checksum(out) {
		return nil, 0, api.ErrSum
	}
	return out, 2 + used + 4, api.OK
}

// certain is what is certain of a stream whose front has no fault.
func certain(t *testing.T, front []byte, most int) []byte {
	t.Helper()
	if len(front) < 2 {
		return nil
	}
	d, _ := inflate.New(most)
	out, e := d.Write(front[2:])
	if e != api.OK {
		t.Fatalf("inflate: % x: %v", brief(front), e)
	}
	return out
}

// tells fails unless Unpack answers just that.
func tells(t *testing.T, b []byte, most int, want []byte, used int, fault api.Errno) {
	t.Helper()
	out, n, e := phosphor.Unpack(b, most)
	if e != fault || n != used || !bytes.Equal(out, want) {
		t.Fatalf("P601: %d bytes, % x, most %d: %d bytes, %d, %v; want %d, %d, %v", len(b), brief(b), most, len(out), n, e, len(want), used, fault)
	}
}

// decoder fails unless New takes most.
func decoder(t *testing.T, most int) *phosphor.Decoder {
	t.Helper()
	d, e := phosphor.New(most)
	if e != api.OK || d == nil {
		t.Fatalf("P602: New(%d): %v", most, e)
	}
	return d
}

// comesSo fails unless a decoder that is handed b, cut there, tells each time what is certain of all that came.
func comesSo(t *testing.T, b []byte, most int, cuts ...int) {
	t.Helper()
	d := decoder(t, most)
	at, told := 0, 0
	fault := api.OK
	for _, cut := range append(cuts, len(b)) {
		piece := slices.Clone(b[at:cut])
		out, e := d.Write(piece)
		clear(piece) // what was handed in is not kept
		at = cut
		_, _, now := says(b[:cut], most)
		if now == api.OK || now == api.ErrShort {
			want := certain(t, b[:cut], most)
			if e != api.OK || !bytes.Equal(out, want[told:]) {
				t.Fatalf("P602: % x up to %d, most %d: % x, %v; want % x", brief(b), cut, most, brief(out), e, brief(want[told:]))
			}
			told = len(want)
		} else {
			fault = now
		}
		if fault != api.OK && (e != fault || len(out) != 0) {
			t.Fatalf("P602: % x up to %d, most %d: % x, %v; want %v", brief(b), cut, most, brief(out), e, fault)
		}
		if d.Done() != (now == api.OK) || d.Room() < 0 || d.Room() > mostRoom {
			t.Fatalf("P602: % x up to %d: Done %v, Room %d; want %v", brief(b), cut, d.Done(), d.Room(), now)
		}
	}
}

// each is all places of b.
func each(b []byte) (cuts []int) {
	for i := range b {
		cuts = append(cuts, i)
	}
	return cuts
}

// comes tries a stream whole, byte by byte, and cut in three.
func comes(t *testing.T, b []byte, most int, s *numbers) {
	t.Helper()
	out, used, e := says(b, most)
	tells(t, b, most, out, used, e)
	comesSo(t, b, most)
	cuts := []int{s.below(len(b) + 1), s.below(len(b) + 1)}
	slices.Sort(cuts)
	comesSo(t, b, most, cuts...)
	if len(b) < 60 {
		comesSo(t, b, most, each(b)...)
	}
}

func TestP601StreamsOfTheLibrary(t *testing.T) {
	s := numbers(2)
	for name, want := range texts() {
		for level := zlib.HuffmanOnly; level <= zlib.BestCompression; level++ {
			b := packs(want, level)
			out, n, e := phosphor.Unpack(append(slices.Clone(b), s.bytes(s.below(9))...), len(want))
			if e != api.OK || n != len(b) || !bytes.Equal(out, want) {
				t.Errorf("P601: %s, level %d: %d bytes, %d of %d, %v", name, level, len(out), n, len(b), e)
			}
			if len(want) > 0 {
				tells(t, b, len(want)-1, nil, 0, api.ErrLong)
			}
			tells(t, b[:len(b)-1], plenty, nil, 0, api.ErrShort)
		}
	}
}

func TestP601Pack(t *testing.T) {
	for name, b := range texts() {
		for _, fixed := range []bool{false, true} {
			body := inflate.Store(b)
			if fixed {
				body = inflate.Fixed(b)
			}
			x := phosphor.Pack(b, fixed)
			if !bytes.Equal(x, whole([]byte{0x78, 1}, body, b)) {
				t.Errorf("P601: Pack of %s, %v: %d bytes, % x", name, fixed, len(x), brief(x))
			}
			in := bytes.NewReader(x)
			r, err := zlib.NewReader(in)
			if err != nil {
				t.Fatalf("P601: %s: %v", name, err)
			}
			if out, err := io.ReadAll(r); err != nil || !bytes.Equal(out, b) || in.Len() != 0 {
				t.Errorf("P601: %s: the library reads %d bytes, %v, %d left", name, len(out), err, in.Len())
			}
			tells(t, x, len(b), b, len(x), api.OK)
		}
	}
	for _, c := range []struct {
		b     string
		fixed bool
		want  []byte
	}{
		{"", false, []byte{0x78, 1, 1, 0, 0, 0xFF, 0xFF, 0, 0, 0, 1}},
		{"", true, []byte{0x78, 1, 3, 0, 0, 0, 0, 1}},
		{"123456789", false, append(append([]byte{0x78, 1, 1, 9, 0, 0xF6, 0xFF}, "123456789"...), 9, 0x1E, 1, 0xDE)},
	} {
		if x := phosphor.Pack([]byte(c.b), c.fixed); !bytes.Equal(x, c.want) {
			t.Errorf("P601: Pack of %q, %v: % x; want % x", c.b, c.fixed, x, c.want)
		}
	}
}

func TestP601AllHeaders(t *testing.T) {
	rest := hello()[2:]
	right := 0
	for v := range 1 << 16 {
		first, second := byte(v>>8), byte(v)
		b := append([]byte{first, second}, rest...)
		if first&15 == 8 && first < 0x80 && v%31 == 0 && second&32 == 0 {
			right++
			tells(t, b, 5, []byte("hello"), len(b), api.OK)
			tells(t, b[:2], 5, nil, 0, api.ErrShort)
			continue
		}
		tells(t, b[:2], 5, nil, 0, api.ErrForm)
		tells(t, b, 0, nil, 0, api.ErrForm) // ahead of too many
	}
	if right != 8*4 { // windows and levels
		t.Errorf("P601: %d headers are right", right)
	}
}

func TestP601TheFirstByteAlone(t *testing.T) {
	for v := range 256 {
		want := api.ErrForm
		if v%16 == 8 && v < 0x80 {
			want = api.ErrShort
		}
		tells(t, []byte{byte(v)}, 9, nil, 0, want)
		if _, e := decoder(t, 9).Write([]byte{byte(v)}); (e == api.OK) != (want == api.ErrShort) || e != api.OK && e != want {
			t.Errorf("P602: %02x: %v", v, e)
		}
	}
	tells(t, nil, 9, nil, 0, api.ErrShort)
}

func TestP601TheWindowIsNotHeldAgainstDistances(t *testing.T) { // the document has no error of it
	want := texts()["farthest"]
	b := packs(want, 9)
	b[0], b[1] = 0x08, 0x1D // of 256 bytes
	tells(t, b, len(want), want, len(b), api.OK)
}

func TestP601Short(t *testing.T) {
	for name, want := range texts() {
		if len(want) > 100 {
			want = want[:100]
		}
		for _, b := range [][]byte{phosphor.Pack(want, false), phosphor.Pack(want, true), packs(want, 9)} {
			for n := range b {
				tells(t, b[:n], plenty, nil, 0, api.ErrShort)
			}
			s := numbers(len(name))
			comes(t, b, plenty, &s)
			comes(t, append(slices.Clone(b), 1, 2, 3, 4, 5), plenty, &s)
		}
	}
}

func TestP601Sums(t *testing.T) {
	s := numbers(3)
	for name, want := range texts() {
		b := packs(want, 6)
		for i := range 32 {
			bad := slices.Clone(b)
			bad[len(b)-4+i/8] ^= 1 << (i % 8)
			tells(t, bad, plenty, nil, 0, api.ErrSum)
			tells(t, append(bad, b...), plenty, nil, 0, api.ErrSum)
			for n := range 4 { // a sum that is not whole is not wrong yet
				tells(t, bad[:len(b)-4+n], plenty, nil, 0, api.ErrShort)
			}
		}
		turned := slices.Clone(b)
		slices.Reverse(turned[len(b)-4:])
		tells(t, turned, plenty, nil, 0, api.ErrSum) // none of these sums is the same both ways
		none := append(slices.Clone(b[:len(b)-4]), 0, 0, 0, 0)
		tells(t, none, plenty, nil, 0, api.ErrSum)
		if len(want) < 100 {
			comes(t, turned, plenty, &s)
			comes(t, append(none, 1, 0, 0), plenty, &s)
		} else if len(want) > 0 {
			other := whole(b[:2], b[2:len(b)-4], want[1:])
			tells(t, other, plenty, nil, 0, api.ErrSum)
		}
		if name == "nothing" && !bytes.Equal(b[len(b)-4:], []byte{0, 0, 0, 1}) {
			t.Errorf("the sum of nothing: % x", b)
		}
	}
}

func TestP601ErrorsOfInflate(t *testing.T) {
	s := numbers(4)
	head := []byte{0x78, 1}
	for _, c := range []struct {
		what string
		body []byte
		most int
		e    api.Errno
	}{
		{"kind 3", []byte{7}, plenty, api.ErrForm},
		{"a length that does not fit", []byte{1, 1, 0, 1, 0}, plenty, api.ErrForm},
		{"too far", []byte{0x4b, 4, 0x42, 0}, plenty, api.ErrForm},
		{"a repeat with none ahead", []byte{5, 0x60, 0x12, 0, 0}, plenty, api.ErrForm},
		{"too many of a stored one", inflate.Store([]byte("abc")), 2, api.ErrLong},
		{"too many of a fixed one", inflate.Fixed([]byte("abc")), 2, api.ErrLong},
		{"one too many", inflate.Fixed([]byte("a")), 0, api.ErrLong},
	} {
		for _, behind := range [][]byte{nil, {0, 0, 0, 1}, s.bytes(9)} { // ahead of a sum that does not fit
			b := slices.Concat(head, c.body, behind)
			if _, _, e := phosphor.Unpack(b, c.most); e != c.e {
				t.Errorf("P601: %s: %v; want %v", c.what, e, c.e)
			}
			comes(t, b, c.most, &s)
		}
	}
	tells(t, []byte{0x78, 2, 7}, plenty, nil, 0, api.ErrForm)
	tells(t, phosphor.Pack([]byte("ab"), true), 2, []byte("ab"), 10, api.OK)
}

func TestP601Most(t *testing.T) {
	empty := phosphor.Pack(nil, true)
	for _, most := range []int{-1, -1 << 30, 1<<30 + 1, math.MinInt, math.MaxInt} {
		for _, b := range [][]byte{nil, empty, {0x79}, {0x78}} { // ahead of all else
			tells(t, b, most, nil, 0, api.ErrArg)
		}
		if d, e := phosphor.New(most); d != nil || e != api.ErrArg {
			t.Errorf("P602: New(%d): %v, %v", most, d, e)
		}
	}
	for _, most := range []int{0, 1, 1<<30 - 1, 1 << 30} {
		tells(t, empty, most, nil, len(empty), api.OK)
		if d := decoder(t, most); d.Done() || d.Room() > mostRoom {
			t.Errorf("P602: a new one: %v, %d", d.Done(), d.Room())
		}
	}
}

func TestP601AllShortBodies(t *testing.T) {
	s := numbers(5)
	for v := range 1 << 16 {
		b := append([]byte{0x78, 0xDA, byte(v), byte(v >> 8)}, 0, 0, 0, 1)
		out, used, e := says(b, 3)
		tells(t, b, 3, out, used, e)
		if v%256 == 3 {
			comes(t, b[:s.below(len(b)+1)], 3, &s)
		}
	}
}

func TestP601AnyStreams(t *testing.T) {
	s := numbers(6)
	seen := map[api.Errno]int{}
	for i := range 2000 {
		want := s.bytes(s.below(200))
		if i%3 == 0 {
			want = bytes.Repeat(want[:min(len(want), 5)], 1+s.below(200))
		}
		b := packs(want, i%12-2)
		if i%5 == 0 {
			b = phosphor.Pack(want, i%2 == 0)
		}
		if s.below(2) == 0 {
			b[s.below(len(b))] ^= 1 << s.below(8)
		}
		if s.below(8) == 0 {
			b = b[:s.below(len(b))]
		}
		b = append(b, s.bytes(s.below(3))...)
		most := plenty
		if s.below(4) == 0 {
			most = s.below(len(want) + 2)
		}
		_, _, e := says(b, most)
		seen[e]++
		comes(t, b, most, &s)
	}
	for _, e := range []api.Errno{api.OK, api.ErrShort, api.ErrForm, api.ErrSum, api.ErrLong} {
		if seen[e] < 50 {
			t.Errorf("%v came %d times alone", e, seen[e])
		}
	}
}

func TestP601KeepsNothing(t *testing.T) { // P2, P3
	want := texts()["letters"]
	room := append(slices.Clone(want), 1, 2, 3, 4)
	for _, fixed := range []bool{false, true} {
		b := phosphor.Pack(room[:len(want)], fixed)
		was := slices.Clone(b)
		out, n, _ := phosphor.Unpack(b, plenty)
		clear(out[:cap(out)])
		if !bytes.Equal(b, was) || !bytes.Equal(room, append(slices.Clone(want), 1, 2, 3, 4)) {
			t.Error("what was handed in is changed")
		}
		clear(b[:cap(b)])
		tells(t, phosphor.Pack(want, fixed), plenty, want, n, api.OK)
		if !bytes.Equal(phosphor.Pack(want, fixed), was) {
			t.Error("the same again is something else")
		}
	}
}

func TestP602AnyPieces(t *testing.T) {
	s := numbers(7)
	for name, want := range texts() {
		for _, b := range [][]byte{packs(want, 6), phosphor.Pack(want, false), phosphor.Pack(want, true)} {
			for _, most := range []int{1, 7, 300, 40000, 1 << 20} {
				d := decoder(t, len(want))
				var all []byte
				for at := 0; at < len(b); {
					piece := slices.Clone(b[at:min(len(b), at+1+s.below(most))])
					at += len(piece)
					out, e := d.Write(piece)
					if e != api.OK || d.Done() != (at == len(b)) || d.Room() > mostRoom {
						t.Fatalf("P602: %s, up to %d of %d: %v, Done %v, Room %d", name, at, len(b), e, d.Done(), d.Room())
					}
					all = append(all, out...)
					clear(piece)
					clear(out[:cap(out)]) // what was told is not needed
				}
				if !bytes.Equal(all, want) {
					t.Errorf("P602: %s, in pieces of %d: it says something else", name, most)
				}
			}
		}
	}
}

func TestP602ToldAsItComes(t *testing.T) {
	b := phosphor.Pack([]byte("abc"), false) // two bytes, five, abc, four
	d := decoder(t, 3)
	for i, c := range b {
		out, e := d.Write([]byte{c})
		want := ""
		if i >= 7 && i < 10 {
			want = "abc"[i-7 : i-6]
		}
		if string(out) != want || e != api.OK || d.Done() != (i == len(b)-1) {
			t.Fatalf("P602: byte %d: %q, %v, Done %v", i, out, e, d.Done())
		}
		for _, nothing := range [][]byte{nil, {}} {
			if out, e := d.Write(nothing); len(out) != 0 || e != api.OK || d.Done() != (i == len(b)-1) {
				t.Fatalf("P602: nothing: %q, %v, Done %v", out, e, d.Done())
			}
		}
	}
}

func TestP602ToldAheadOfASum(t *testing.T) {
	b := hello()
	b[len(b)-1] ^= 1
	for cut := 2; cut < len(b); cut++ {
		d := decoder(t, 5)
		first, e := d.Write(b[:cut])
		if want := certain(t, b[:cut], 5); e != api.OK || !bytes.Equal(first, want) {
			t.Errorf("P602: up to %d: %q, %v; want %q", cut, first, e, want)
		}
		room := d.Room()
		for _, more := range [][]byte{b[cut:], nil, hello(), b} {
			if out, e := d.Write(more); len(out) != 0 || e != api.ErrSum || d.Done() || d.Room() != room {
				t.Errorf("P602: behind %d: %q, %v, Done %v, Room %d", cut, out, e, d.Done(), d.Room())
			}
		}
	}
}

func TestP602FaultsStay(t *testing.T) {
	stored := inflate.Store([]byte("abcdef"))
	for _, c := range []struct {
		front, bad []byte
		e          api.Errno
	}{
		{nil, []byte{0x88}, api.ErrForm},
		{nil, []byte{0x79, 1}, api.ErrForm},
		{[]byte{0x78}, []byte{2}, api.ErrForm},
		{[]byte{0x78}, []byte{0x20}, api.ErrForm},
		{[]byte{0x78, 1}, []byte{7}, api.ErrForm},
		{append([]byte{0x78, 1}, stored[:8]...), stored[8:], api.ErrLong},
		{whole([]byte{0x78, 1}, inflate.Fixed([]byte("abc")), nil)[:8], []byte{1, 2, 3, 4, 5}, api.ErrSum},
		{whole([]byte{0x78, 1}, inflate.Fixed([]byte("abc")), []byte("abd")), nil, api.ErrSum},
	} {
		d := decoder(t, 5)
		out, e := d.Write(c.front)
		if c.bad != nil && e != api.OK || c.bad == nil && e != c.e {
			t.Fatalf("P602: % x: %q, %v", c.front, out, e)
		}
		room := d.Room()
		for _, b := range [][]byte{c.bad, nil, {}, c.bad, hello(), make([]byte, 9000)} {
			if len(b) == 0 && e == api.OK {
				continue
			}
			if out, e = d.Write(b); len(out) != 0 || e != c.e {
				t.Fatalf("P602: % x, behind it % x: %q, %v; want %v", c.front, brief(b), out, e, c.e)
			}
			if d.Done() || d.Room() != room { // P5
				t.Fatalf("P602: % x: Done %v, Room %d; was %d", c.front, d.Done(), d.Room(), room)
			}
		}
	}
}

func TestP602Behind(t *testing.T) {
	for _, b := range [][]byte{hello(), phosphor.Pack(nil, false), packs([]byte("again and again and again"), 9)} {
		want, n, e := says(b, plenty)
		if e != api.OK || n != len(b) {
			t.Fatalf("% x: %v", b, e)
		}
		for _, behind := range [][]byte{{7}, {0x79, 0, 0, 0}, make([]byte, 10000), b} {
			for cut := range len(b) + 1 {
				d := decoder(t, len(want))
				first, _ := d.Write(b[:cut])
				second, e := d.Write(slices.Concat(b[cut:], behind))
				if e != api.OK || !d.Done() || !bytes.Equal(slices.Concat(first, second), want) {
					t.Fatalf("P602: % x, cut at %d: %q, %q, %v", b, cut, first, second, e)
				}
				if out, e := d.Write(behind); e != api.OK || len(out) != 0 || !d.Done() {
					t.Fatalf("P602: % x, behind its end: %q, %v", b, out, e)
				}
			}
		}
	}
}

// held is the room of all slices of what v has, once each.
func held(v reflect.Value) (n int) {
	switch v.Kind() {
	case reflect.Pointer, reflect.Interface:
		if !v.IsNil() {
			n = held(v.Elem())
		}
	case reflect.Struct:
		for i := range v.NumField() {
			n += held(v.Field(i))
		}
	case reflect.Slice:
		n = v.Cap() * int(v.Type().Elem().Size())
	}
	return n
}

func TestP602Room(t *testing.T) {
	s := numbers(8)
	for name, want := range texts() {
		for _, fault := range []bool{false, true} {
			b := packs(want, 6)
			if fault {
				b[len(b)*2/3] ^= 0x55
			}
			d := decoder(t, 1<<30)
			for at := 0; at < len(b); {
				n := min(1+s.below(1+s.below(100000)), len(b)-at)
				d.Write(b[at : at+n])
				at += n
				room := held(reflect.ValueOf(d))
				if d.Room() < room || d.Room() > room+64 || d.Room() > mostRoom {
					t.Fatalf("P602: %s: Room %d; its slices have %d", name, d.Room(), room)
				}
			}
		}
	}
}

func TestP602OwnObjects(t *testing.T) { // P3, P7
	b := packs([]byte("to and fro, to and fro"), 9)
	first, second := decoder(t, plenty), decoder(t, plenty)
	for i := range b {
		x, e := first.Write(b[i : i+1])
		y, f := second.Write(b[i : i+1])
		if e != api.OK || f != api.OK || !bytes.Equal(x, y) || first.Done() != second.Done() {
			t.Fatalf("P602: byte %d: %q, %v; %q, %v", i, x, e, y, f)
		}
		decoder(t, plenty).Write(b[:i])
	}
}

func TestP602ADecoderOfNoNew(t *testing.T) { // P1: as one of New(0)
	for _, c := range []struct {
		b []byte
		e api.Errno
	}{{phosphor.Pack(nil, true), api.OK}, {phosphor.Pack([]byte{1}, true), api.ErrLong}, {phosphor.Pack([]byte{1}, false), api.ErrLong}, {[]byte{0x79}, api.ErrForm}} {
		var d phosphor.Decoder
		for i := range c.b {
			if _, e := d.Write(c.b[i : i+1]); e != api.OK && e != c.e || d.Room() > mostRoom {
				t.Errorf("% x: %v", c.b, e)
			}
		}
		if _, e := d.Write(nil); e != c.e || d.Done() != (e == api.OK) {
			t.Errorf("% x: %v", c.b, e)
		}
	}
}

func TestP602Methods(t *testing.T) { // what the body promotes is not this decoder's
	var names []string
	v := reflect.TypeFor[*phosphor.Decoder]()
	for i := range v.NumMethod() {
		names = append(names, v.Method(i).Name)
	}
	if !slices.Equal(names, []string{"Done", "Room", "Write"}) {
		t.Errorf("P602: a decoder has %v", names)
	}
}
