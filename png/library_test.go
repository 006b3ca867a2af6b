package png_test

import (
	"bytes"
	"image"
	"image/color"
	library "image/png"
	"strconv"
	"testing"

	"phosphor/api"
	"phosphor/png"
)

// colour is a pixel of the library's, each of its numbers by its higher byte; nothing is multiplied by alpha.
func colour(t *testing.T, c color.Color) []byte {
	t.Helper()
	switch c := c.(type) {
	case color.Gray:
		return []byte{c.Y, c.Y, c.Y, 255}
	case color.Gray16:
		v := byte(c.Y >> 8)
		return []byte{v, v, v, 255}
	case color.RGBA:
		if c.A == 255 {
			return []byte{c.R, c.G, c.B, 255}
		}
	case color.RGBA64:
		if c.A == 0xFFFF {
			return []byte{byte(c.R >> 8), byte(c.G >> 8), byte(c.B >> 8), 255}
		}
	case color.NRGBA:
		return []byte{c.R, c.G, c.B, c.A}
	case color.NRGBA64:
		return []byte{byte(c.R >> 8), byte(c.G >> 8), byte(c.B >> 8), byte(c.A >> 8)}
	}
	t.Fatalf("a colour of no kind: %#v", c)
	return nil
}

// told is an image of the library's.
func told(t *testing.T, i image.Image) api.Matrix {
	t.Helper()
	m := api.Matrix{W: i.Bounds().Dx(), H: i.Bounds().Dy()}
	for y := range m.H {
		for x := range m.W {
			m.P = append(m.P, colour(t, i.At(x, y))...)
		}
	}
	return m
}

// What the library reads, Decode reads likewise.
func TestP904AsTheLibrary(t *testing.T) {
	s := numbers(16)
	for _, color := range kinds {
		for _, depth := range depths[color] {
			for range 60 {
				h := png.Head{W: 1 + s.below(40), H: 1 + s.below(40), Depth: depth, Color: color, Lace: s.below(2)}
				b := file(s.chunks(s.drawn(h))...)
				i, e := library.Decode(bytes.NewReader(b))
				if e != nil {
					t.Fatalf("the library: %v", e)
				}
				decodes(t, "P904: "+strconv.Itoa(color)+", "+strconv.Itoa(depth), b, told(t, i))
			}
		}
	}
}

// What the library writes, Decode reads.
func TestP904OfTheLibrary(t *testing.T) {
	s := numbers(17)
	for range 40 {
		r := image.Rect(0, 0, 1+s.below(70), 1+s.below(70))
		named := image.NewPaletted(r, nil)
		for range 1 + s.below(256) {
			named.Palette = append(named.Palette, color.NRGBA{byte(s.below(256)), byte(s.below(256)), byte(s.below(256)), byte(255 - s.below(2)*s.below(256))})
		}
		for i := range named.Pix {
			named.Pix[i] = byte(s.below(len(named.Palette)))
		}
		gray, gray16, whole, deep := image.NewGray(r), image.NewGray16(r), image.NewNRGBA(r), image.NewNRGBA64(r)
		for _, p := range [][]byte{gray.Pix, gray16.Pix, whole.Pix, deep.Pix} {
			copy(p, s.bytes(len(p)))
		}
		for _, i := range []image.Image{named, gray, gray16, whole, deep} {
			for _, level := range []library.CompressionLevel{library.NoCompression, library.BestSpeed, library.BestCompression} {
				var out bytes.Buffer
				if e := (&library.Encoder{CompressionLevel: level}).Encode(&out, i); e != nil {
					t.Fatalf("the library: %v", e)
				}
				decodes(t, "P904: of the library", out.Bytes(), told(t, i))
			}
		}
	}
}

// What Encode tells, the library reads.
func TestP905AsTheLibrary(t *testing.T) {
	s := numbers(18)
	for range 200 {
		m := s.matrix(1+s.below(40), 1+s.below(40))
		i, e := library.Decode(bytes.NewReader(png.Encode(m, s.below(2) == 1, s.below(5))))
		if e != nil {
			t.Fatalf("P905: the library: %v", e)
		}
		if got := told(t, i); got.W != m.W || got.H != m.H || !bytes.Equal(got.P, m.P) {
			t.Fatalf("P905: %d by %d: the library reads another image", m.W, m.H)
		}
	}
}
