package filter_test

import (
	"bytes"
	"compress/zlib"
	"encoding/binary"
	"hash/crc32"
	"image"
	"image/color"
	"image/png"
	"io"
	"slices"
	"testing"

	"phosphor/api"
	"phosphor/filter"
)

// chunk lays one of PNG's.
func chunk(out *bytes.Buffer, kind string, data []byte) {
	binary.Write(out, binary.BigEndian, uint32(len(data)))
	body := append([]byte(kind), data...)
	out.Write(body)
	binary.Write(out, binary.BigEndian, crc32.ChecksumIEEE(body))
}

// file lays a PNG of rows with their filters ahead.
func file(w, h, depth, kind, lace int, rows []byte) []byte {
	out := bytes.NewBufferString("\x89PNG\r\n\x1a\n")
	head := binary.BigEndian.AppendUint32(nil, uint32(w))
	head = binary.BigEndian.AppendUint32(head, uint32(h))
	chunk(out, "IHDR", append(head, byte(depth), byte(kind), 0, 0, byte(lace)))
	var packed bytes.Buffer
	z := zlib.NewWriter(&packed)
	z.Write(rows)
	z.Close()
	chunk(out, "IDAT", packed.Bytes())
	chunk(out, "IEND", nil)
	return out.Bytes()
}

// data are the rows of a PNG, with their filters ahead.
func data(t *testing.T, b []byte) []byte {
	t.Helper()
	var packed []byte
	for b = b[8:]; len(b) > 0; {
		n := int(binary.BigEndian.Uint32(b))
		if string(b[4:8]) == "IDAT" {
			packed = append(packed, b[8:8+n]...)
		}
		b = b[12+n:]
	}
	z, err := zlib.NewReader(bytes.NewReader(packed))
	if err != nil {
		t.Fatal(err)
	}
	rows, err := io.ReadAll(z)
	if err != nil {
		t.Fatal(err)
	}
	return rows
}

// slopes are an image in which one filter fits here, another there.
func slopes(s *numbers, w, h int) *image.NRGBA {
	m := image.NewNRGBA(image.Rect(0, 0, w, h))
	for y := range h {
		for x := range w {
			c := color.NRGBA{byte(x*3 + y*y/7), byte(y * 5), byte(x * y / 9), byte(200 + s.below(3))}
			if y%16 > 12 {
				c = color.NRGBA{byte(s.below(256)), byte(s.below(4)), byte(x * x), 77}
			}
			m.SetNRGBA(x, y, c)
		}
	}
	return m
}

// What the library filtered is undone.
func TestP801RowsOfTheLibrary(t *testing.T) {
	s := numbers(6)
	m := slopes(&s, 61, 90)
	var b bytes.Buffer
	if err := png.Encode(&b, m); err != nil {
		t.Fatal(err)
	}
	rows := data(t, b.Bytes())
	size := filter.Row(61, 4, 8)
	if len(rows) != 90*(size+1) {
		t.Fatalf("P802: Row(61, 4, 8): %d; the library has %d bytes for 90 rows", size, len(rows))
	}
	var ahead []byte
	for y := range 90 {
		row := rows[y*(size+1) : (y+1)*(size+1)]
		undone, e := filter.Undo(int(row[0]), row[1:], ahead, 4)
		if want := m.Pix[y*m.Stride : y*m.Stride+size]; e != api.OK || !bytes.Equal(undone, want) {
			t.Fatalf("P801: row %d, filter %d: %v, %v; want %v", y, row[0], undone, e, want)
		}
		done, e := filter.Do(int(row[0]), undone, ahead, 4)
		if e != api.OK || !bytes.Equal(done, row[1:]) {
			t.Fatalf("P801: row %d, filter %d: done once more: %v, %v; want %v", y, row[0], done, e, row[1:])
		}
		ahead = undone
	}
}

// What is filtered here, with lace or without, the library undoes.
func TestP801RowsForTheLibrary(t *testing.T) {
	s := numbers(7)
	for w := 1; w <= 18; w++ {
		for _, h := range []int{1, 2, 3, 4, 5, 8, 9, 17} {
			m := slopes(&s, w, h)
			for kind := range 6 { // 5: each row another one
				for lace, passes := range [][]filter.Pass{{{DX: 1, DY: 1}}, filter.Passes()} {
					var rows []byte
					for _, p := range passes {
						rows = append(rows, passRows(t, m, p, kind)...)
					}
					got, err := png.Decode(bytes.NewReader(file(w, h, 8, 6, lace, rows)))
					if err != nil {
						t.Fatalf("P801: %d by %d, filter %d, lace %d: %v", w, h, kind, lace, err)
					}
					if n, ok := got.(*image.NRGBA); !ok || !bytes.Equal(n.Pix, m.Pix) {
						t.Fatalf("P801: %d by %d, filter %d, lace %d: another image", w, h, kind, lace)
					}
				}
			}
		}
	}
}

// passRows are the rows of a pass, filtered, with their filters ahead.
func passRows(t *testing.T, m *image.NRGBA, p filter.Pass, kind int) (rows []byte) {
	t.Helper()
	wide, high := filter.Size(p, m.Rect.Dx(), m.Rect.Dy())
	var ahead []byte
	for y := range high {
		var row []byte
		for x := range wide {
			c := m.NRGBAAt(p.X+x*p.DX, p.Y+y*p.DY)
			row = append(row, c.R, c.G, c.B, c.A)
		}
		use := kind
		if kind == 5 {
			use = y % 5
		}
		done, e := filter.Do(use, row, ahead, 4)
		if e != api.OK || len(done) != filter.Row(wide, 4, 8) {
			t.Fatalf("P801: Do(%d): %d bytes, %v", use, len(done), e)
		}
		rows = append(append(rows, byte(use)), done...)
		ahead = row
	}
	return rows
}

// Samples of gray are what the library tells of them.
func TestP802SamplesOfTheLibrary(t *testing.T) {
	s := numbers(8)
	const h = 3
	for _, depth := range []int{1, 2, 4, 8, 16} {
		for w := 1; w <= 33; w++ {
			var rows, plain []byte
			size := filter.Row(w, 1, depth)
			for range h {
				row := s.bytes(size)
				rows = append(append(rows, 0), row...)
				plain = append(plain, row...)
			}
			m, err := png.Decode(bytes.NewReader(file(w, h, depth, 0, 0, rows)))
			if err != nil {
				t.Fatalf("P802: %d samples of %d: %v", w, depth, err)
			}
			for y := range h {
				got, e := filter.Samples(plain[y*size:(y+1)*size], depth, w)
				if want := grays(m, y, depth); e != api.OK || !slices.Equal(got, want) {
					t.Fatalf("P802: %d samples of %d: %v, %v; want %v", w, depth, got, e, want)
				}
			}
		}
	}
}

// grays are the samples of a row of gray; the library stretches them to 16 bits.
func grays(m image.Image, y, depth int) (l []int) {
	for x := range m.Bounds().Dx() {
		c := color.Gray16Model.Convert(m.At(x, y)).(color.Gray16)
		l = append(l, int(c.Y)/(65535/(1<<depth-1)))
	}
	return l
}
