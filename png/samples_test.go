package png_test

import (
	"bytes"
	"slices"
	"strconv"
	"testing"

	"phosphor/api"
	"phosphor/png"
)

func TestP904ByHand(t *testing.T) {
	for i, c := range []struct {
		h    png.Head
		l    []png.Chunk
		want string
	}{
		{png.Head{W: 9, H: 1, Depth: 1}, []png.Chunk{idat(0, 0xA5, 0x80)}, "\xff\x00\xff\x00\x00\xff\x00\xff\xff"},
		{png.Head{W: 5, H: 1, Depth: 2}, []png.Chunk{idat(0, 0x1B, 0xBF)}, "\x00\x55\xaa\xff\xaa"},
		{png.Head{W: 3, H: 1, Depth: 4}, []png.Chunk{idat(0, 0x1E, 0x7F)}, "\x11\xee\x77"},
		{png.Head{W: 3, H: 1, Depth: 8}, []png.Chunk{idat(0, 1, 254, 7)}, "\x01\xfe\x07"},
		{png.Head{W: 3, H: 1, Depth: 16}, []png.Chunk{idat(0, 0, 255, 1, 0, 255, 255)}, "\x00\x01\xff"},
	} {
		var want []byte
		for _, v := range []byte(c.want) {
			want = append(want, v, v, v, 255)
		}
		decodes(t, "P904: gray "+strconv.Itoa(i), file(slices.Concat([]png.Chunk{head(c.h)}, c.l, []png.Chunk{end})...), api.Matrix{W: c.h.W, H: c.h.H, P: want})
	}
	for name, c := range map[string]struct {
		h    png.Head
		l    []png.Chunk
		want []byte
	}{
		"rgb":                 {png.Head{W: 2, H: 1, Depth: 8, Color: 2}, []png.Chunk{idat(0, 1, 2, 3, 4, 5, 6)}, []byte{1, 2, 3, 255, 4, 5, 6, 255}},
		"rgb 16":              {png.Head{W: 1, H: 1, Depth: 16, Color: 2}, []png.Chunk{idat(0, 1, 99, 2, 99, 3, 255)}, []byte{1, 2, 3, 255}},
		"gray alpha":          {png.Head{W: 2, H: 1, Depth: 8, Color: 4}, []png.Chunk{idat(0, 1, 2, 3, 0)}, []byte{1, 1, 1, 2, 3, 3, 3, 0}},
		"gray alpha 16":       {png.Head{W: 1, H: 1, Depth: 16, Color: 4}, []png.Chunk{idat(0, 1, 99, 2, 99)}, []byte{1, 1, 1, 2}},
		"rgba":                {png.Head{W: 2, H: 1, Depth: 8, Color: 6}, []png.Chunk{idat(0, 1, 2, 3, 4, 5, 6, 7, 0)}, []byte{1, 2, 3, 4, 5, 6, 7, 0}},
		"rgba 16":             {png.Head{W: 1, H: 1, Depth: 16, Color: 6}, []png.Chunk{idat(0, 1, 99, 2, 99, 3, 99, 4, 99)}, []byte{1, 2, 3, 4}},
		"named":               {png.Head{W: 3, H: 1, Depth: 2, Color: 3}, []png.Chunk{of("PLTE", 1, 2, 3, 4, 5, 6, 7, 8, 9), of("tRNS", 0, 77), idat(0, 0x1B)}, []byte{1, 2, 3, 0, 4, 5, 6, 77, 7, 8, 9, 255}},
		"palette not needed":  {png.Head{W: 1, H: 1, Depth: 8, Color: 6}, []png.Chunk{of("PLTE", 9, 9, 9), idat(0, 0, 0, 0, 0)}, []byte{0, 0, 0, 0}},
		"palette, tRNS":       {png.Head{W: 1, H: 1, Depth: 8, Color: 2}, []png.Chunk{of("PLTE", 9, 9, 9), of("tRNS", 0, 9, 0, 9, 0, 9), idat(0, 9, 9, 9)}, []byte{9, 9, 9, 0}},
		"tRNS of 1":           {png.Head{W: 2, H: 1, Depth: 1}, []png.Chunk{of("tRNS", 255, 254), idat(0, 0x40)}, []byte{0, 0, 0, 0, 255, 255, 255, 255}},
		"tRNS of 2":           {png.Head{W: 2, H: 1, Depth: 2}, []png.Chunk{of("tRNS", 1, 7), idat(0, 0xD0)}, []byte{255, 255, 255, 0, 85, 85, 85, 255}},
		"tRNS of 8":           {png.Head{W: 3, H: 1, Depth: 8}, []png.Chunk{of("tRNS", 9, 7), idat(0, 7, 9, 8)}, []byte{7, 7, 7, 0, 9, 9, 9, 255, 8, 8, 8, 255}},
		"tRNS of 16":          {png.Head{W: 3, H: 1, Depth: 16}, []png.Chunk{of("tRNS", 9, 7), idat(0, 9, 7, 9, 8, 0, 7)}, []byte{9, 9, 9, 0, 9, 9, 9, 255, 0, 0, 0, 255}},
		"tRNS of three":       {png.Head{W: 4, H: 1, Depth: 8, Color: 2}, []png.Chunk{of("tRNS", 5, 1, 0, 2, 255, 3), idat(0, 1, 2, 3, 1, 2, 4, 0, 2, 3, 1, 3, 3)}, []byte{1, 2, 3, 0, 1, 2, 4, 255, 0, 2, 3, 255, 1, 3, 3, 255}},
		"tRNS of three of 16": {png.Head{W: 2, H: 1, Depth: 16, Color: 2}, []png.Chunk{of("tRNS", 1, 2, 3, 4, 5, 6), idat(0, 1, 2, 3, 4, 5, 6, 1, 2, 3, 4, 5, 7)}, []byte{1, 3, 5, 0, 1, 3, 5, 255}},
		"rows":                {png.Head{W: 1, H: 4, Depth: 8}, []png.Chunk{idat(0, 1, 2, 10, 3, 9, 4, 250)}, []byte{1, 1, 1, 255, 11, 11, 11, 255, 14, 14, 14, 255, 8, 8, 8, 255}},
	} {
		decodes(t, "P904: "+name, file(slices.Concat([]png.Chunk{head(c.h)}, c.l, []png.Chunk{end})...), api.Matrix{W: c.h.W, H: c.h.H, P: c.want})
	}
}

// All that a gray sample can be, in each depth.
func TestP904AllSamples(t *testing.T) {
	for _, depth := range []int{1, 2, 4, 8, 16} {
		w := min(1<<depth, 1<<14)
		d := drawing{h: png.Head{W: w, H: 1 << depth / w, Depth: depth}, s: make([]int, 1<<depth)}
		for i := range d.s {
			d.s[i] = i
		}
		s := numbers(8)
		decodes(t, "P904: depth "+strconv.Itoa(depth), file(head(d.h), idat(s.raw(d)...), end), d.pixels())
	}
}

// A tRNS of each two bytes: the lowest bits of them are a sample.
func TestP904AllThatIsNotSeen(t *testing.T) {
	s := numbers(9)
	for _, depth := range []int{1, 2, 4, 8, 16} {
		w := min(1<<depth, 1<<8)
		d := drawing{h: png.Head{W: w, H: 1, Depth: depth}, s: make([]int, w), cleared: true}
		for i := range d.s {
			d.s[i] = i << max(0, depth-8)
		}
		data := idat(s.raw(d)...)
		for v := 0; v < 1<<16; v += 1 + s.below(40) {
			d.clear = []byte{byte(v >> 8), byte(v)}
			decodes(t, "P904: depth "+strconv.Itoa(depth)+" without "+strconv.Itoa(v), file(head(d.h), of("tRNS", d.clear...), data, end), d.pixels())
		}
	}
}

func TestP904AnyImages(t *testing.T) {
	s := numbers(10)
	for _, color := range kinds {
		for _, depth := range depths[color] {
			for lace := range 2 {
				for w := 1; w <= 17; w++ { // all the ways in which Adam7's passes can be there, or not
					for h := 1; h <= 9; h++ {
						d := s.drawn(png.Head{W: w, H: h, Depth: depth, Color: color, Lace: lace})
						name := strconv.Itoa(color) + ", " + strconv.Itoa(depth) + ", " + strconv.Itoa(lace)
						decodes(t, "P904: "+name, file(s.chunks(d)...), d.pixels())
					}
				}
				d := s.drawn(png.Head{W: 200 + s.below(60), H: 30 + s.below(40), Depth: depth, Color: color, Lace: lace})
				decodes(t, "P904: many", file(s.chunks(d)...), d.pixels())
			}
		}
	}
}

// The longest sides there are, and more than one block of a stream.
func TestP904Long(t *testing.T) {
	s := numbers(11)
	for _, h := range []png.Head{{W: 1 << 14, H: 1, Depth: 1}, {W: 1, H: 1 << 14, Depth: 1}, {W: 1 << 14, H: 3, Depth: 16, Color: 6}, {W: 2, H: 1 << 14, Depth: 8, Color: 2}, {W: 1 << 14, H: 5, Depth: 2, Color: 3}} {
		for lace := range 2 {
			h.Lace = lace
			d := s.drawn(h)
			decodes(t, "P904: long", file(s.chunks(d)...), d.pixels())
		}
	}
}

// The image is the same, however its stream is cut into IDATs.
func TestP904CutAnywhere(t *testing.T) {
	s := numbers(12)
	d := s.drawn(png.Head{W: 6, H: 5, Depth: 8, Color: 6, Lace: 1})
	b := pack(s.raw(d), 9)
	want := d.pixels()
	for i := range len(b) + 1 {
		decodes(t, "P904: cut", file(head(d.h), of("IDAT", b[:i]...), of("IDAT", b[i:]...), end), want)
	}
	l := []png.Chunk{head(d.h)}
	for i := range b {
		l = append(l, of("IDAT", b[i]), of("IDAT"))
	}
	decodes(t, "P904: one by one", file(append(l, end)...), want)
	if m, e := png.Decode(append(file(append(l, end)...), 1, 2, 3), 30); e != api.OK || !bytes.Equal(m.P, want.P) {
		t.Errorf("P901: bytes behind the end: %v", e)
	}
}
