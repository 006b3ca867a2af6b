package sums_test

import (
	"bytes"
	"errors"
	"hash/adler32"
	"hash/crc32"
	"slices"
	"testing"

	"phosphor/sums"
)

// numbers is a short rule for numbers that look like any.
type numbers uint64

func (s *numbers) next() uint32 {
	*s = *s*6364136223846793005 + 1442695040888963407
	return uint32(*s >> 32)
}

func (s *numbers) below(n int) int { return int(s.next() % uint32(n)) }

func (s *numbers) bytes(n int) []byte {
	b := make([]byte, n)
	for i := range b {
		b[i] = byte(s.next())
	}
	return b
}

// plainCrc is P201's words, bit by bit.
func plainCrc(b []byte) uint32 {
	v := uint32(0xFFFFFFFF)
	for _, c := range b {
		for i := range 8 {
			out := v&1 ^ uint32(c>>i&1)
			v >>= 1
			if out == 1 {
				v ^= 0xEDB88320
			}
		}
	}
	return v ^ 0xFFFFFFFF
}

// plainAdler is RFC 1950's words, byte by byte.
func plainAdler(b []byte) uint32 {
	low, high := uint64(1), uint64(0)
	for _, c := range b {
		low = (low + uint64(c)) % 65521
		high = (high + low) % 65521
	}
	return uint32(high*65536 + low)
}

// kind is one of the two sums, with what it has to tell.
type kind struct {
	name  string
	make  func() sums.Sum
	plain func(b []byte) uint32
}

func kinds() []kind {
	return []kind{
		{"Crc", func() sums.Sum { return sums.NewCrc() }, plainCrc},
		{"Adler", func() sums.Sum { return sums.NewAdler() }, plainAdler},
	}
}

// write fails unless all of b is written.
func write(t *testing.T, s sums.Sum, b []byte) {
	t.Helper()
	if n, err := s.Write(b); n != len(b) || err != nil {
		t.Fatalf("Write of %d bytes: %d, %v", len(b), n, err)
	}
}

func TestP201Known(t *testing.T) {
	for _, c := range []struct {
		text       string
		crc, adler uint32
	}{
		{"", 0, 1},
		{"a", 0xE8B7BE43, 0x00620062},
		{"abc", 0x352441C2, 0x024D0127},
		{"123456789", 0xCBF43926, 0x091E01DE},
		{"Wikipedia", 0xADAAC02E, 0x11E60398},
		{"IEND", 0xAE426082, 0x02D70121}, // behind each PNG
		{"\x00", 0xD202EF8D, 0x00010001},
		{"\x00\x00\x00\x00", 0x2144DF1C, 0x00040001},
		{"\xFF", 0xFF000000, 0x01000100},
		{"\xFF\xFF\xFF\xFF", 0xFFFFFFFF, 0x09FA03FD},
	} {
		crc, adler := sums.NewCrc(), sums.NewAdler()
		write(t, crc, []byte(c.text))
		write(t, adler, []byte(c.text))
		if v := crc.Sum(); v != c.crc {
			t.Errorf("Crc of %q: %08X; want %08X", c.text, v, c.crc)
		}
		if v := adler.Sum(); v != c.adler {
			t.Errorf("Adler of %q: %08X; want %08X", c.text, v, c.adler)
		}
	}
}

func TestP201EachByte(t *testing.T) {
	for _, k := range kinds() {
		for c := range 256 {
			for _, ahead := range []string{"", "x", "\xFF\x00"} {
				b := append([]byte(ahead), byte(c))
				s := k.make()
				write(t, s, b)
				if s.Sum() != k.plain(b) {
					t.Errorf("%s of % x: %08X; want %08X", k.name, b, s.Sum(), k.plain(b))
				}
			}
		}
	}
}

func TestP201Nothing(t *testing.T) {
	for _, k := range kinds() {
		s := k.make()
		for _, b := range [][]byte{nil, {}, make([]byte, 0, 8), []byte{1, 2}[:0]} {
			write(t, s, b)
			if s.Sum() != k.plain(nil) {
				t.Errorf("%s of nothing: %08X", k.name, s.Sum())
			}
		}
		write(t, s, []byte("ab"))
		write(t, s, nil)
		if s.Sum() != k.plain([]byte("ab")) {
			t.Errorf("%s with nothing behind: %08X", k.name, s.Sum())
		}
	}
}

// Each half of an Adler comes to 65520 here, and passes it.
func TestP201AdlerAroundTheModulus(t *testing.T) {
	low := func(v int) []byte { // bytes whose sum, with the 1, is v
		b := bytes.Repeat([]byte{255}, (v-1)/255)
		return append(b, byte((v-1)%255))
	}
	for _, v := range []int{65519, 65520, 65521, 65522, 2*65521 - 1, 2 * 65521, 2*65521 + 1} {
		a := sums.NewAdler()
		b := low(v)
		write(t, a, b)
		if want := uint32(v % 65521); a.Sum()&0xFFFF != want || a.Sum() != plainAdler(b) {
			t.Errorf("low %d: %08X; want %08X", v, a.Sum(), plainAdler(b))
		}
	}
	zeros := make([]byte, 2*65521+2) // with 0s the high half counts the bytes
	for _, n := range []int{65519, 65520, 65521, 65522, 2*65521 - 1, 2 * 65521, 2*65521 + 1} {
		if v := sums.Of(sums.NewAdler(), zeros[:n]); v != uint32(n%65521)<<16|1 {
			t.Errorf("%d zeros: %08X", n, v)
		}
	}
}

// The greatest bytes from the greatest halves on: here a sum in 32 bits comes nearest to its end.
func TestP201AdlerOfTheGreatest(t *testing.T) {
	ahead := []byte{}
	for low := 1; low < 65520; low += 255 {
		ahead = append(ahead, byte(min(255, 65520-low)))
	}
	high := int(plainAdler(ahead) >> 16)
	ahead = append(ahead, make([]byte, high+1)...) // each 0 takes 1 off the high half, and what is below 0 is 65520
	for _, n := range []int{1, 2, 5550, 5551, 5552, 5553, 5554, 11104, 11105, 1 << 16, 300000} {
		a := sums.NewAdler()
		write(t, a, ahead)
		if a.Sum() != 65520<<16|65520 {
			t.Fatalf("ahead: %08X", a.Sum())
		}
		b := bytes.Repeat([]byte{255}, n)
		write(t, a, b)
		if want := plainAdler(slices.Concat(ahead, b)); a.Sum() != want {
			t.Errorf("%d bytes 255: %08X; want %08X", n, a.Sum(), want)
		}
	}
}

func TestP201Long(t *testing.T) {
	s := numbers(1)
	for _, n := range []int{15, 16, 17, 255, 256, 4096, 5551, 5552, 5553, 1<<16 - 1, 1 << 16, 1 << 20} {
		for _, b := range [][]byte{s.bytes(n), make([]byte, n), bytes.Repeat([]byte{255}, n)} {
			for _, k := range kinds() {
				x := k.make()
				write(t, x, b)
				if x.Sum() != k.plain(b) {
					t.Errorf("%s of %d bytes: %08X; want %08X", k.name, n, x.Sum(), k.plain(b))
				}
			}
		}
	}
}

// What others tell who were not made here.
func TestP201AsTheLibrary(t *testing.T) {
	s := numbers(2)
	for range 300 {
		b := s.bytes(s.below(20000))
		if v := sums.Of(sums.NewCrc(), b); v != crc32.ChecksumIEEE(b) {
			t.Fatalf("Crc of %d bytes: %08X; want %08X", len(b), v, crc32.ChecksumIEEE(b))
		}
		if v := sums.Of(sums.NewAdler(), b); v != adler32.Checksum(b) {
			t.Fatalf("Adler of %d bytes: %08X; want %08X", len(b), v, adler32.Checksum(b))
		}
	}
}

func TestP201GoesOn(t *testing.T) {
	s := numbers(3)
	for _, k := range kinds() {
		for range 40 {
			b := s.bytes(s.below(12000))
			x := k.make()
			for at := 0; at < len(b); {
				n := min(s.below(1+s.below(9000)), len(b)-at)
				write(t, x, b[at:at+n])
				at += n
				for range s.below(3) { // asking changes nothing
					if x.Sum() != k.plain(b[:at]) {
						t.Fatalf("%s at %d: %08X; want %08X", k.name, at, x.Sum(), k.plain(b[:at]))
					}
				}
			}
			if x.Sum() != k.plain(b) {
				t.Fatalf("%s of %d bytes in parts: %08X; want %08X", k.name, len(b), x.Sum(), k.plain(b))
			}
		}
	}
}

func TestP201ByteByByte(t *testing.T) {
	s := numbers(4)
	b := s.bytes(20000)
	for _, k := range kinds() {
		x := k.make()
		for i := range b {
			write(t, x, b[i:i+1])
		}
		if x.Sum() != k.plain(b) {
			t.Errorf("%s: %08X; want %08X", k.name, x.Sum(), k.plain(b))
		}
	}
}

func TestP201KeepsNothing(t *testing.T) {
	for _, k := range kinds() {
		room := []byte("abcdef")
		x := k.make()
		write(t, x, room[:3]) // P2: the room behind is none of it
		if string(room) != "abcdef" {
			t.Errorf("%s changes what it was handed: %q", k.name, room)
		}
		clear(room)
		if x.Sum() != k.plain([]byte("abc")) {
			t.Errorf("%s keeps what it was handed: %08X", k.name, x.Sum())
		}
	}
}

func TestP201OwnObjects(t *testing.T) {
	for _, k := range kinds() {
		x, other := k.make(), k.make() // P7
		write(t, x, []byte("abc"))
		if other.Sum() != k.plain(nil) {
			t.Errorf("%s: another one tells %08X", k.name, other.Sum())
		}
		write(t, other, []byte("x"))
		if x.Sum() != k.plain([]byte("abc")) || other.Sum() != k.plain([]byte("x")) {
			t.Errorf("%s: two of them are one", k.name)
		}
	}
}

func TestP201NotMadeByNew(t *testing.T) {
	if v := sums.Of(new(sums.Crc), []byte("abc")); v != plainCrc([]byte("abc")) { // P1
		t.Errorf("Crc: %08X", v)
	}
	if v := sums.Of(new(sums.Adler), []byte("abc")); v != plainAdler([]byte("abc")) {
		t.Errorf("Adler: %08X", v)
	}
}

func TestP202Of(t *testing.T) {
	if v := sums.Of(sums.NewCrc(), []byte("1234"), nil, []byte("5"), []byte{}, []byte("6789")); v != 0xCBF43926 {
		t.Errorf("Crc: %08X", v)
	}
	if v := sums.Of(sums.NewAdler(), []byte("1234"), nil, []byte("5"), []byte{}, []byte("6789")); v != 0x091E01DE {
		t.Errorf("Adler: %08X", v)
	}
	if v := sums.Of(sums.NewCrc(), []byte("6789"), []byte("12345")); v != plainCrc([]byte("678912345")) {
		t.Errorf("Crc, in the parts' order: %08X", v)
	}
}

func TestP202NoParts(t *testing.T) {
	for _, parts := range [][][]byte{nil, {}, {nil}, {{}, nil, {}}} {
		if c, a := sums.Of(sums.NewCrc(), parts...), sums.Of(sums.NewAdler(), parts...); c != 0 || a != 1 {
			t.Errorf("%v: %08X, %08X", parts, c, a)
		}
	}
}

func TestP202BehindWhatWasWritten(t *testing.T) {
	for _, k := range kinds() {
		s := k.make() // by the interface itself, too
		write(t, s, []byte("12"))
		if v := sums.Of(s); v != k.plain([]byte("12")) {
			t.Errorf("%s: %08X", k.name, v)
		}
		if v := sums.Of(s, []byte("34"), []byte("56")); v != k.plain([]byte("123456")) {
			t.Errorf("%s, behind what was there: %08X", k.name, v)
		}
		write(t, s, []byte("7"))
		if v := sums.Of(s, []byte("89")); v != k.plain([]byte("123456789")) || s.Sum() != v {
			t.Errorf("%s, on and on: %08X, %08X", k.name, v, s.Sum())
		}
	}
}

func TestP202AnyParts(t *testing.T) {
	s := numbers(5)
	for range 200 {
		var parts, kept [][]byte
		for range s.below(8) {
			b := s.bytes(s.below(3000))
			parts, kept = append(parts, b), append(kept, slices.Clone(b))
		}
		all := slices.Concat(parts...)
		for _, k := range kinds() {
			if v := sums.Of(k.make(), parts...); v != k.plain(all) {
				t.Fatalf("%s of %d parts: %08X; want %08X", k.name, len(parts), v, k.plain(all))
			}
		}
		if !slices.EqualFunc(parts, kept, bytes.Equal) {
			t.Fatal("Of changes its parts") // P2
		}
	}
}

// refuser is a sum of somebody else's: it tells how many bytes came, and that each was too many.
type refuser struct{ parts [][]byte }

func (r *refuser) Write(b []byte) (int, error) {
	r.parts = append(r.parts, bytes.Clone(b))
	return 0, errors.New("too many")
}

func (r *refuser) Sum() uint32 { return uint32(len(slices.Concat(r.parts...))) }

// last is one that is no pointer.
type last chan byte

func (l last) Write(b []byte) (int, error) {
	for _, c := range b {
		l <- c
	}
	return len(b), nil
}

func (l last) Sum() uint32 { return uint32(len(l)) }

func TestP202AnySum(t *testing.T) {
	r := &refuser{}
	if v := sums.Of(r, []byte("ab"), nil, []byte("c")); v != 3 {
		t.Errorf("one that refuses: %d", v)
	}
	if want := [][]byte{[]byte("ab"), nil, []byte("c")}; !slices.EqualFunc(r.parts, want, bytes.Equal) {
		t.Errorf("each part comes once, in its order: %q", r.parts)
	}
	l := make(last, 8)
	if v := sums.Of(l, []byte("abc"), []byte("de")); v != 5 || <-l != 'a' {
		t.Errorf("one that is no pointer: %d", v)
	}
}
