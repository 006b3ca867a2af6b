package png_test

import (
	"bytes"
	stdzlib "compress/zlib"
	"io"
	"math"
	"slices"
	"testing"

	"phosphor/api"
	"phosphor/png"
)

// matrix is any of these sides, with spare room.
func (n *numbers) matrix(w, h int) api.Matrix {
	return api.Matrix{W: w, H: h, P: n.bytes(4*w*h + 7)[:4*w*h]}
}

// unpack is a stream's bytes, by the library.
func unpack(t *testing.T, b []byte) []byte {
	t.Helper()
	r, e := stdzlib.NewReader(bytes.NewReader(b))
	if e != nil {
		t.Fatalf("P905: %v", e)
	}
	out, e := io.ReadAll(r)
	if e != nil {
		t.Fatalf("P905: %v", e)
	}
	return out
}

// encodes holds Encode of m against what it has to tell: chunk by chunk, row by row, and Decode of it.
func encodes(t *testing.T, m api.Matrix, lace bool, kind int) {
	t.Helper()
	kept := slices.Clone(m.P[:cap(m.P)])
	b := png.Encode(m, lace, kind)
	if !bytes.Equal(m.P[:cap(m.P)], kept) {
		t.Fatalf("P2: what was handed in is changed")
	}
	d := drawing{h: png.Head{W: m.W, H: m.H, Depth: 8, Color: 6}}
	if lace {
		d.h.Lace = 1
	}
	for _, v := range m.P {
		d.s = append(d.s, int(v))
	}
	l, e := png.Chunks(b)
	if e != api.OK || len(l) != 3 || !sameChunks(l[:1], []png.Chunk{head(d.h)}) || l[1].Kind != "IDAT" || !sameChunks(l[2:], []png.Chunk{end}) {
		t.Fatalf("P905: %d by %d, %v, %d: %d chunks, %v", m.W, m.H, lace, kind, len(l), e)
	}
	if kind < 0 || kind > 4 {
		kind = 0
	}
	var raw []byte
	for _, rows := range d.lines() {
		var ahead []byte
		for _, row := range rows {
			var now []byte
			for _, v := range row {
				now = append(now, byte(v))
			}
			raw = append(raw, filtered(kind, now, ahead, 4)...)
			ahead = now
		}
	}
	data := l[1].Data
	if !bytes.Equal(unpack(t, data), raw) {
		t.Fatalf("P905: %d by %d, %v, %d: not these rows", m.W, m.H, lace, kind)
	}
	if blocks := (len(raw) + 65534) / 65535; len(data) != 2+5*blocks+len(raw)+4 || data[0] != 0x78 || data[1] != 1 {
		t.Fatalf("P905: %d by %d, %v, %d: not stored", m.W, m.H, lace, kind)
	}
	decodes(t, "P905", b, m)
}

func TestP905ByHand(t *testing.T) {
	m := api.Matrix{W: 1, H: 1, P: []byte{1, 2, 3, 4}}
	want := begin + "\x00\x00\x00\x0dIHDR\x00\x00\x00\x01\x00\x00\x00\x01\x08\x06\x00\x00\x00\x1f\x15\xc4\x89" +
		string(chunk("IDAT", []byte{0x78, 1, 1, 5, 0, 0xFA, 0xFF, 0, 1, 2, 3, 4, 0, 0x19, 0, 0x0B})) + "\x00\x00\x00\x00IEND\xae\x42\x60\x82"
	if got := png.Encode(m, false, 0); string(got) != want {
		t.Errorf("P905: % x; want % x", got, want)
	}
}

func TestP905AnyImages(t *testing.T) {
	s := numbers(13)
	for _, lace := range []bool{false, true} {
		for kind := range 5 {
			for w := 1; w <= 17; w++ {
				for h := 1; h <= 17; h++ {
					encodes(t, s.matrix(w, h), lace, kind)
				}
			}
			encodes(t, s.matrix(150+s.below(50), 150+s.below(50)), lace, kind) // more than one stored block
			encodes(t, s.matrix(1<<14, 1), lace, kind)
			encodes(t, s.matrix(1, 1<<14), lace, kind)
		}
	}
}

func TestP905OtherKinds(t *testing.T) {
	s := numbers(14)
	m := s.matrix(5, 5)
	for _, lace := range []bool{false, true} {
		plain := png.Encode(m, lace, 0)
		for _, kind := range []int{-1, 5, 6, 255, 256, 260, 1 << 32, 1<<32 + 1, math.MaxInt, math.MinInt} {
			encodes(t, m, lace, kind)
			if !bytes.Equal(png.Encode(m, lace, kind), plain) {
				t.Errorf("P905: kind %d is not as 0", kind)
			}
		}
		for kind := 1; kind <= 4; kind++ {
			if bytes.Equal(png.Encode(m, lace, kind), plain) {
				t.Errorf("P905: kind %d is as 0", kind)
			}
		}
	}
}

// Of what has no pixels, or is no matrix, nothing is promised but that the call ends, and changes nothing.
func TestP905NoMatrix(t *testing.T) {
	p := []byte{1, 2, 3, 4, 5, 6, 7, 8}
	for _, m := range []api.Matrix{
		{}, {P: p}, {W: 1, H: 0}, {W: 0, H: 1, P: p}, {W: 1, H: 1}, {W: 1, H: 1, P: p}, {W: 2, H: 2, P: p}, {W: -1, H: -2, P: p}, {W: -1, H: 1, P: p}, {W: math.MaxInt, H: 2, P: p},
		{W: math.MinInt, H: math.MinInt}, {W: math.MaxInt, H: math.MaxInt}, {W: 1 << 14, H: 1 << 14, P: p}, {W: 1 << 32, H: 1 << 32}, {W: 1<<14 + 1, H: 1, P: make([]byte, 4<<14+4)},
	} {
		for _, lace := range []bool{false, true} {
			png.Encode(m, lace, 4)
		}
	}
	if !bytes.Equal(p, []byte{1, 2, 3, 4, 5, 6, 7, 8}) {
		t.Errorf("P2: what was handed in is changed: %v", p)
	}
}

func TestP905NewMemory(t *testing.T) {
	s := numbers(15)
	m := s.matrix(3, 3)
	b, again := png.Encode(m, true, 2), png.Encode(m, true, 2)
	kept := slices.Clone(m.P)
	clear(b[:cap(b)])
	if !bytes.Equal(m.P, kept) {
		t.Errorf("P2: a file is the matrix's")
	}
	clear(m.P)
	decodes(t, "P2: a file is somebody else's", again, api.Matrix{W: 3, H: 3, P: kept})
}
