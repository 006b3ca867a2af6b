package png_test

import (
	"bytes"
	stdzlib "compress/zlib"
	"encoding/binary"
	"hash/crc32"
	"slices"
	"testing"

	"phosphor/api"
	"phosphor/png"
)

// numbers is a short rule for numbers that look like any.
type numbers uint64

func (s *numbers) below(n int) int {
	*s = *s*6364136223846793005 + 1442695040888963407
	return int(uint32(*s>>32) % uint32(n))
}

func (s *numbers) bytes(n int) []byte {
	b := make([]byte, n)
	for i := range b {
		b[i] = byte(s.below(256))
	}
	return b
}

// kinds of colours, in an order that is the same in each run.
var kinds = []int{0, 2, 3, 4, 6}

// depths are those that a kind of colour may have.
var depths = map[int][]int{0: {1, 2, 4, 8, 16}, 2: {8, 16}, 3: {1, 2, 4, 8}, 4: {8, 16}, 6: {8, 16}}

// per is how many samples a pixel has, by its kind of colour.
var per = map[int]int{0: 1, 2: 3, 3: 1, 4: 2, 6: 4}

const begin = "\x89\x50\x4E\x47\x0D\x0A\x1A\x0A"

// chunk is a whole one, told by the library's means.
func chunk(kind string, data []byte) []byte {
	b := binary.BigEndian.AppendUint32(nil, uint32(len(data)))
	b = append(append(b, kind...), data...)
	return binary.BigEndian.AppendUint32(b, crc32.ChecksumIEEE(b[4:]))
}

// file is one of these chunks.
func file(l ...png.Chunk) []byte {
	b := []byte(begin)
	for _, c := range l {
		b = append(b, chunk(c.Kind, c.Data)...)
	}
	return b
}

// head is IHDR.
func head(h png.Head) png.Chunk {
	b := binary.BigEndian.AppendUint32(nil, uint32(h.W))
	b = binary.BigEndian.AppendUint32(b, uint32(h.H))
	return png.Chunk{Kind: "IHDR", Data: append(b, byte(h.Depth), byte(h.Color), 0, 0, byte(h.Lace))}
}

// writers are the library's, by level: a new one for each stream would take most of the time.
var writers [10]*stdzlib.Writer

// pack is a stream of zlib, by the library.
func pack(b []byte, level int) []byte {
	var out bytes.Buffer
	if writers[level] == nil {
		writers[level], _ = stdzlib.NewWriterLevel(&out, level)
	}
	w := writers[level]
	w.Reset(&out)
	w.Write(b)
	w.Close()
	return out.Bytes()
}

func of(kind string, data ...byte) png.Chunk { return png.Chunk{Kind: kind, Data: data} }

func idat(rows ...byte) png.Chunk { return png.Chunk{Kind: "IDAT", Data: pack(rows, 6)} }

// picture is PNG 8.2's: which pass each pixel of eight by eight comes in.
var picture = [8]string{"16462646", "77777777", "56565656", "77777777", "36463646", "77777777", "56565656", "77777777"}

// drawing is an image, sample by sample, all bits.
type drawing struct {
	h       png.Head
	s       []int
	palette []byte
	clear   []byte
	cleared bool // there is a tRNS, though it be empty
}

// drawn is any of that head; where its kind may have them, with a palette and with a tRNS, whose colour is had by some pixels.
func (n *numbers) drawn(h png.Head) drawing {
	d := drawing{h: h, s: make([]int, h.W*h.H*per[h.Color])}
	most := 1 << h.Depth
	if h.Color == 3 {
		most = 1 + n.below(most)
		d.palette = n.bytes(3 * most)
	}
	for i := range d.s {
		d.s[i] = n.below(most)
	}
	if h.Color == 4 || h.Color == 6 || n.below(3) == 0 {
		return d
	}
	d.cleared = true
	if h.Color == 3 {
		d.clear = n.bytes(n.below(most + 1))
		return d
	}
	at := n.below(h.W*h.H) * per[h.Color]
	one := slices.Clone(d.s[at : at+per[h.Color]])
	for range n.below(4) { // more of these, and of some that are nearly these
		copy(d.s[n.below(h.W*h.H)*per[h.Color]:], one)
		d.s[n.below(len(d.s))] ^= 1
	}
	for _, v := range one {
		d.clear = binary.BigEndian.AppendUint16(d.clear, uint16(v))
	}
	return d
}

// eight is a sample by eight bits, depth by depth.
func eight(v, depth int) byte {
	switch depth {
	case 1:
		return byte(v * 255)
	case 2:
		return byte(v * 85)
	case 4:
		return byte(v * 17)
	case 16:
		return byte(v / 256)
	}
	return byte(v)
}

// pixels are what Decode has to tell.
func (d drawing) pixels() api.Matrix {
	m := api.Matrix{W: d.h.W, H: d.h.H}
	n := per[d.h.Color]
	for i := 0; i < len(d.s); i += n {
		s := d.s[i : i+n]
		var c []byte
		for _, v := range s {
			c = append(c, eight(v, d.h.Depth))
		}
		last := byte(255)
		switch d.h.Color {
		case 0:
			c = []byte{c[0], c[0], c[0]}
		case 3:
			c = d.palette[3*s[0] : 3*s[0]+3]
			if s[0] < len(d.clear) {
				last = d.clear[s[0]]
			}
		case 4:
			c, last = []byte{c[0], c[0], c[0]}, c[1]
		case 6:
			c, last = c[:3], c[3]
		}
		if d.cleared && (d.h.Color == 0 || d.h.Color == 2) {
			all := true
			for j, v := range s {
				all = all && int(binary.BigEndian.Uint16(d.clear[2*j:]))%(1<<d.h.Depth) == v
			}
			if all {
				last = 0
			}
		}
		m.P = append(append(m.P, c...), last)
	}
	return m
}

// lines are the samples of all rows, in the order in which a file has them.
func (d drawing) lines() (out [][][]int) {
	n := per[d.h.Color]
	for pass := byte('1'); pass <= '7'; pass++ {
		var rows [][]int
		for y := range d.h.H {
			var row []int
			for x := range d.h.W {
				if d.h.Lace == 1 && picture[y%8][x%8] == pass || d.h.Lace == 0 && pass == '1' {
					at := (y*d.h.W + x) * n
					row = append(row, d.s[at:at+n]...)
				}
			}
			if row != nil {
				rows = append(rows, row)
			}
		}
		out = append(out, rows)
	}
	return out
}

// packed is a row's samples as bytes; bits that are left over are whatever comes.
func (n *numbers) packed(row []int, depth int) []byte {
	var text []byte
	for _, v := range row {
		for i := depth - 1; i >= 0; i-- {
			text = append(text, byte(v>>i&1))
		}
	}
	for len(text)%8 != 0 {
		text = append(text, byte(n.below(2)))
	}
	var out []byte
	for ; len(text) > 0; text = text[8:] {
		v := byte(0)
		for _, bit := range text[:8] {
			v = v*2 + bit
		}
		out = append(out, v)
	}
	return out
}

// filtered is a row with its filter, word by word as in PNG 9.2.
func filtered(kind int, row, ahead []byte, step int) []byte {
	out := []byte{byte(kind)}
	pick := func(b []byte, i int) int {
		if i < 0 || b == nil {
			return 0
		}
		return int(b[i])
	}
	for i := range row {
		a, b, c := pick(row, i-step), pick(ahead, i), pick(ahead, i-step)
		p := a + b - c
		pa, pb, pc := max(p-a, a-p), max(p-b, b-p), max(p-c, c-p)
		near := c
		if pa <= pb && pa <= pc {
			near = a
		} else if pb <= pc {
			near = b
		}
		out = append(out, row[i]-byte([5]int{0, a, b, (a + b) / 2, near}[kind]))
	}
	return out
}

// raw is what the IDATs unpack to; each row has any filter.
func (n *numbers) raw(d drawing) (out []byte) {
	step := max(1, per[d.h.Color]*d.h.Depth/8)
	for _, rows := range d.lines() {
		var ahead []byte
		for _, row := range rows {
			now := n.packed(row, d.h.Depth)
			out = append(out, filtered(n.below(5), now, ahead, step)...)
			ahead = now
		}
	}
	return out
}

// chunks are those of a file, with IDATs cut anywhere, and other chunks where they may stand.
func (n *numbers) chunks(d drawing) []png.Chunk {
	l := []png.Chunk{head(d.h)}
	other := func() {
		for range n.below(2) {
			l = append(l, of([]string{"teXt", "abCD", "iDAT", "pLTE", "zzzz", "aAZZ", "iEND", "iHDR", "trns"}[n.below(9)], n.bytes(n.below(5))...))
		}
	}
	other()
	if d.palette != nil {
		l = append(l, of("PLTE", d.palette...))
	} else if (d.h.Color == 2 || d.h.Color == 6) && n.below(2) == 0 {
		l = append(l, of("PLTE", n.bytes(3*(1+n.below(256)))...))
	}
	other()
	if d.cleared {
		l = append(l, of("tRNS", d.clear...))
	}
	other()
	b := pack(n.raw(d), n.below(10))
	for cuts := n.below(5); cuts > 0; cuts-- {
		at := n.below(len(b) + 1)
		l = append(l, of("IDAT", b[:at]...))
		b = b[at:]
	}
	l = append(l, of("IDAT", b...))
	other()
	return append(l, of("IEND"))
}

// decodes holds Decode of a file against what it has to tell.
func decodes(t *testing.T, name string, b []byte, want api.Matrix) {
	t.Helper()
	kept := slices.Clone(b[:cap(b)])
	m, e := png.Decode(b, want.W*want.H)
	if e != api.OK || m.W != want.W || m.H != want.H || !bytes.Equal(m.P, want.P) {
		t.Fatalf("%s: %d by %d, % x, %v; want %d by %d, % x", name, m.W, m.H, m.P, e, want.W, want.H, want.P)
	}
	if !bytes.Equal(kept, b[:cap(b)]) {
		t.Fatalf("P2: %s: what was handed in is changed", name)
	}
}

// refuses holds Decode of a file against an error.
func refuses(t *testing.T, name string, b []byte, pixels int, want api.Errno) {
	t.Helper()
	m, e := png.Decode(b, pixels)
	if e != want {
		t.Errorf("%s: %v; want %v", name, e, want)
	}
	if e != api.OK && (m.W != 0 || m.H != 0 || len(m.P) != 0) {
		t.Errorf("P4: %s: %v beside %v", name, m, e)
	}
}
