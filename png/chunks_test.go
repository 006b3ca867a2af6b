package png_test

import (
	"bytes"
	"math"
	"slices"
	"strconv"
	"testing"

	"phosphor/api"
	"phosphor/png"
)

// sameChunks tells whether these are those.
func sameChunks(a, b []png.Chunk) bool {
	return slices.EqualFunc(a, b, func(x, y png.Chunk) bool { return x.Kind == y.Kind && bytes.Equal(x.Data, y.Data) })
}

func TestP901ByHand(t *testing.T) {
	end := "\x00\x00\x00\x00IEND\xae\x42\x60\x82" // as it stands in every file
	b := []byte(begin + end)
	l, e := png.Chunks(b)
	if e != api.OK || !sameChunks(l, []png.Chunk{of("IEND")}) {
		t.Errorf("P901: %v, %v", l, e)
	}
	if got := png.Lay(of("IEND")); string(got) != begin+end {
		t.Errorf("P901: Lay: % x", got)
	}
	if got := png.Lay(); string(got) != begin {
		t.Errorf("P901: Lay of none: % x", got)
	}
	one := "\x00\x00\x00\x01abCD\x07" + string(chunk("abCD", []byte{7})[9:])
	l, e = png.Chunks([]byte(begin + one + one + end + one))
	if e != api.OK || !sameChunks(l, []png.Chunk{of("abCD", 7), of("abCD", 7), of("IEND")}) {
		t.Errorf("P901: %v, %v", l, e)
	}
	if got := png.Lay(l...); string(got) != begin+one+one+end {
		t.Errorf("P901: Lay: % x", got)
	}
}

func TestP901AnyChunks(t *testing.T) {
	s := numbers(1)
	letters := "ABYZabyz"
	for range 300 {
		var l []png.Chunk
		for range s.below(6) {
			kind := make([]byte, 4)
			for i := range kind {
				kind[i] = letters[s.below(len(letters))]
			}
			l = append(l, of(string(kind), s.bytes(s.below(400))...))
		}
		l = append(l, of("IEND", s.bytes(s.below(3))...))
		b := png.Lay(l...)
		if want := file(l...); !bytes.Equal(b, want) {
			t.Fatalf("P901: Lay(%v): % x; want % x", l, b, want)
		}
		got, e := png.Chunks(b)
		if e != api.OK || !sameChunks(got, l) {
			t.Fatalf("P901: %v, %v; want %v", got, e, l)
		}
		b = append(b, s.bytes(30)...) // bytes behind the end, whatever they are
		if got, e = png.Chunks(b); e != api.OK || !sameChunks(got, l) {
			t.Fatalf("P901: with bytes behind: %v, %v; want %v", got, e, l)
		}
		for i := range len(b) - 30 {
			if got, e := png.Chunks(b[:i]); e != api.ErrShort || len(got) != 0 {
				t.Fatalf("P901: %d of % x: %v, %v; want short", i, b, got, e)
			}
		}
	}
}

func TestP901TheBegin(t *testing.T) {
	end := string(chunk("IEND", nil))
	for i := range len(begin) {
		for v := range 256 {
			b := []byte(begin + end)
			b[i] = byte(v)
			want := api.ErrForm
			if byte(v) == begin[i] {
				want = api.OK
			}
			if _, e := png.Chunks(b); e != want {
				t.Errorf("P901: byte %d is %d: %v; want %v", i, v, e, want)
			}
			if want == api.OK {
				want = api.ErrShort
			}
			for n := i + 1; n <= len(begin); n++ { // wrong ahead of short
				if _, e := png.Chunks(b[:n]); e != want {
					t.Errorf("P901: byte %d of %d is %d: %v; want %v", i, n, v, e, want)
				}
			}
		}
	}
	for _, b := range [][]byte{nil, {}} {
		if l, e := png.Chunks(b); len(l) != 0 || e != api.ErrShort {
			t.Errorf("P901: of nothing: %v, %v; want short", l, e)
		}
	}
}

func TestP901Letters(t *testing.T) {
	end := string(chunk("IEND", nil))
	for i := range 4 {
		for v := range 256 {
			kind := []byte("qqqq")
			kind[i] = byte(v)
			b := begin + string(chunk(string(kind), []byte{1})) + end
			letter := v >= 'A' && v <= 'Z' || v >= 'a' && v <= 'z'
			for n := len(begin); n <= len(b); n++ {
				want := api.ErrShort
				switch {
				case n >= len(begin)+8 && !letter: // all four are there, though the rest is not
					want = api.ErrForm
				case n == len(b):
					want = api.OK
				}
				if l, e := png.Chunks([]byte(b[:n])); e != want || e != api.OK && len(l) != 0 {
					t.Fatalf("P901: letter %d is %d, %d bytes: %v, %v; want %v", i, v, n, l, e, want)
				}
			}
		}
	}
}

func TestP901Faults(t *testing.T) {
	for _, c := range []struct {
		b    string
		want api.Errno
	}{
		{"\x7f\xff\xff\xff", api.ErrShort}, {"\x80\x00\x00\x00", api.ErrForm}, {"\xff\xff\xff\xff", api.ErrForm},
		{"\x80\x00\x00", api.ErrShort},         // no number yet
		{"\x80\x00\x00\x00\x01", api.ErrForm},  // the length ahead of the letters
		{"\x80\x00\x00\x00IEND", api.ErrForm},  //
		{"\x7f\xff\xff\xffIEND", api.ErrShort}, // nobody sets bytes aside for it
		{"\x7f\xff\xff\xffIEN", api.ErrShort}, {"\x7f\xff\xff\xffIEN1", api.ErrForm}, {"\x7f\xff\xff\xff1", api.ErrShort},
		{"\x00\x00\x00\x00IEND\xae\x42\x60\x83", api.ErrSum}, {"\x00\x00\x00\x00IEND\x2e\x42\x60\x82", api.ErrSum},
		{"\x00\x00\x00\x00IEND\xae\x42\x60", api.ErrShort}, {"\x00\x00\x00\x00IEND\xff\xff\xff", api.ErrShort},
		{"\x00\x00\x00\x00IEND\x82\x60\x42\xae", api.ErrSum}, {"\x00\x00\x00\x00iEND\xae\x42\x60\x82", api.ErrSum},
		{"\x00\x00\x00\x01IEND\xae\x42\x60\x82", api.ErrShort}, {"\x00\x00\x00\x01IEND\xae\x42\x60\x82\x00", api.ErrSum},
		{string(chunk("iend", nil)), api.ErrShort}, {string(chunk("IEND", nil)), api.OK},
		{string(chunk("aaaa", nil)) + "\x00\x00\x00\x00a!aa", api.ErrForm},
		{string(chunk("aaaa", nil)) + "\x00\x00\x00\x00IEND\xae\x42\x60\x81", api.ErrSum},
		{string(chunk("IEND", nil)) + "\x80\x00\x00\x00", api.OK}, {string(chunk("IEND", []byte{1})) + string(chunk("IEND", nil)), api.OK},
	} {
		l, e := png.Chunks([]byte(begin + c.b))
		if e != c.want {
			t.Errorf("P901: %q: %v; want %v", c.b, e, c.want)
		}
		if e != api.OK && len(l) != 0 {
			t.Errorf("P4: %q: %v beside %v", c.b, l, e)
		}
		want := c.want
		if want == api.OK {
			want = api.ErrForm // Decode's own: there is no IHDR
		}
		refuses(t, "P903: Chunks' error: "+strconv.Quote(c.b), []byte(begin+c.b), 9, want)
	}
	b := file(of("abcd", 1, 2, 3), of("IEND"))
	for i := len(begin) + 8; i < len(begin)+8+3+4; i++ { // each bit of data and sum
		for bit := range 8 {
			x := slices.Clone(b)
			x[i] ^= 1 << bit
			if l, e := png.Chunks(x); e != api.ErrSum || len(l) != 0 {
				t.Errorf("P901: bit %d of byte %d: %v, %v; want sum", bit, i, l, e)
			}
		}
	}
}

func TestP901LayTakesWhatItGets(t *testing.T) {
	for _, c := range []struct{ kind, want string }{
		{"", "\x00\x00\x00\x00"}, {"A", "A\x00\x00\x00"}, {"abc", "abc\x00"}, {"IDATA", "IDAT"}, {"IEND\x00", "IEND"}, {"1\xff é", "1\xff \xc3"}, {"\x00\x00\x00\x00x", "\x00\x00\x00\x00"},
	} {
		for _, data := range [][]byte{nil, {}, {1, 2}} {
			want := begin + string(chunk(c.want, data)) + string(chunk("IEND", nil))
			if got := png.Lay(png.Chunk{Kind: c.kind, Data: data}, of("IEND")); string(got) != want {
				t.Errorf("P901: Lay of %q: % x; want % x", c.kind, got, want)
			}
		}
	}
	long := make([]byte, 0x12345)
	got := png.Lay(of("abcd", long...))
	if !bytes.Equal(got, file(of("abcd", long...))) || string(got[8:12]) != "\x00\x01\x23\x45" {
		t.Errorf("P901: Lay of %d bytes", len(long))
	}
}

func TestP901NewMemory(t *testing.T) {
	want := []png.Chunk{of("abcd", 1, 2, 3), of("efgh"), of("ijkl", 4), of("IEND", 5)}
	b := append(file(want...), 6, 7)
	kept := slices.Clone(b[:cap(b)])
	l, _ := png.Chunks(b)
	again, _ := png.Chunks(b)
	for i := range l {
		for j := range l[i].Data[:cap(l[i].Data)] { // its spare room, too, is its own
			l[i].Data[:cap(l[i].Data)][j] = 200
		}
		for j := range l {
			if j != i && !bytes.Equal(l[j].Data, want[j].Data) {
				t.Errorf("P2: data of %d and %d share memory", i, j)
			}
		}
		if !bytes.Equal(kept, b[:cap(b)]) || !sameChunks(again, want) {
			t.Errorf("P2: data of %d is the file's", i)
		}
		l[i].Data = slices.Clone(want[i].Data)
	}
	clear(b)
	if !sameChunks(again, want) {
		t.Errorf("P2: %v is the file's", again)
	}
	data := []byte{1, 2, 3, 4}
	given := []png.Chunk{{Kind: "abcd", Data: data[:2]}, {Kind: "IEND", Data: data[1:1]}}
	out := png.Lay(given...)
	clear(out[:cap(out)])
	if !bytes.Equal(data, []byte{1, 2, 3, 4}) || given[0].Kind != "abcd" || len(given[0].Data) != 2 || len(given[1].Data) != 0 {
		t.Errorf("P2: Lay changes what it is handed: %v", given)
	}
}

func TestP902Check(t *testing.T) {
	for _, w := range []int{math.MinInt, -1, 0, 1, 2, 1 << 14, 1<<14 + 1, 1 << 31, 1<<32 + 1, math.MaxInt} {
		for _, h := range []int{math.MinInt, -1, 0, 1, 2, 1 << 14, 1<<14 + 1, 1 << 31, 1<<32 + 1, math.MaxInt} {
			for _, lace := range []int{-1, 0, 1, 2} {
				want := api.OK
				if w < 1 || h < 1 || w > 1<<14 || h > 1<<14 {
					want = api.ErrArg
				} else if lace != 0 && lace != 1 {
					want = api.ErrKind
				}
				if e := png.Check(png.Head{W: w, H: h, Depth: 8, Color: 6, Lace: lace}); e != want {
					t.Errorf("P902: %d by %d, %d: %v; want %v", w, h, lace, e, want)
				}
			}
		}
	}
	for color := -3; color < 300; color++ {
		for depth := -3; depth < 300; depth++ {
			want := api.ErrKind
			if slices.Contains(depths[color], depth) {
				want = api.OK
			}
			for lace := range 2 {
				if e := png.Check(png.Head{W: 1, H: 1, Depth: depth, Color: color, Lace: lace}); e != want {
					t.Errorf("P902: color %d, depth %d: %v; want %v", color, depth, e, want)
				}
			}
			if e := png.Check(png.Head{W: 1, H: 0, Depth: depth, Color: color}); e != api.ErrArg {
				t.Errorf("P902: color %d, depth %d, no rows: %v; want arg", color, depth, e)
			}
		}
	}
	for _, far := range []int{math.MinInt, math.MaxInt, 1 << 32, 1<<32 + 8, -8} {
		for _, h := range []png.Head{{1, 1, far, 0, 0}, {1, 1, 8, far, 0}, {1, 1, 8, 0, far}} {
			if e := png.Check(h); e != api.ErrKind {
				t.Errorf("P902: %v: %v; want kind", h, e)
			}
		}
	}
}

func TestP902Samples(t *testing.T) {
	for color := -20; color < 300; color++ {
		if got := png.Samples(color); got != per[color] {
			t.Errorf("P902: Samples(%d): %d; want %d", color, got, per[color])
		}
	}
	for _, far := range []int{math.MinInt, math.MaxInt, 1 << 32, 1<<32 + 2} {
		if got := png.Samples(far); got != 0 {
			t.Errorf("P902: Samples(%d): %d; want 0", far, got)
		}
	}
}

func TestP902Info(t *testing.T) {
	for _, color := range kinds {
		for _, depth := range depths[color] {
			want := png.Head{W: 0x123, H: 0x3FFF, Depth: depth, Color: color, Lace: depth / 4 % 2}
			b := file(head(want))
			for _, behind := range []string{"", "\xff\xff\xff\xff", string(chunk("IEND", nil)), "anything that is none"} {
				if h, e := png.Info(append(slices.Clone(b), behind...)); e != api.OK || h != want {
					t.Errorf("P902: %v, %v; want %v", h, e, want)
				}
			}
			for i := range b {
				if h, e := png.Info(b[:i]); e != api.ErrShort || h != (png.Head{}) {
					t.Errorf("P902: %d bytes: %v, %v; want short", i, h, e)
				}
			}
		}
	}
}

func TestP902InfoFaults(t *testing.T) {
	good := []byte{0, 0, 0, 5, 0, 0, 0, 3, 8, 6, 0, 0, 1}
	with := func(at int, v ...byte) string {
		b := slices.Clone(good)
		copy(b[at:], v)
		return string(chunk("IHDR", b))
	}
	bad := func(s string) string { return s[:len(s)-1] + string(s[len(s)-1]^1) }
	for name, c := range map[string]struct {
		b    string
		want api.Errno
	}{
		"good":           {begin + with(0), api.OK},
		"begin":          {"\x89PNG\r\n\x1a\r" + with(0), api.ErrForm},
		"front":          {"\x89PNG\r", api.ErrShort},
		"nothing":        {"", api.ErrShort},
		"no front":       {"\x89PMG", api.ErrForm},
		"sum":            {begin + bad(with(0)), api.ErrSum},
		"sum ahead":      {begin + bad(with(10, 1)), api.ErrSum},
		"length":         {begin + "\x80" + with(0)[1:], api.ErrForm},
		"letters":        {begin + string(chunk("IHD1", good)), api.ErrForm},
		"kind":           {begin + string(chunk("IHDS", good)), api.ErrForm},
		"small kind":     {begin + string(chunk("iHDR", good)), api.ErrForm},
		"end":            {begin + string(chunk("IEND", nil)), api.ErrForm},
		"second":         {begin + string(chunk("teXt", nil)) + with(0), api.ErrForm},
		"12 bytes":       {begin + string(chunk("IHDR", good[:12])), api.ErrForm},
		"14 bytes":       {begin + string(chunk("IHDR", append(slices.Clone(good), 0))), api.ErrForm},
		"no bytes":       {begin + string(chunk("IHDR", nil)), api.ErrForm},
		"compression":    {begin + with(10, 1), api.ErrForm},
		"filter":         {begin + with(11, 1), api.ErrForm},
		"255":            {begin + with(11, 255), api.ErrForm},
		"form ahead":     {begin + with(0, 0, 0, 0, 0, 0, 0, 0, 0, 0, 0, 1), api.ErrForm},
		"no columns":     {begin + with(0, 0, 0, 0, 0), api.ErrArg},
		"no rows":        {begin + with(4, 0, 0, 0, 0), api.ErrArg},
		"most columns":   {begin + with(0, 0, 0, 0x40, 0), api.OK},
		"columns":        {begin + with(0, 0, 0, 0x40, 1), api.ErrArg},
		"most rows":      {begin + with(4, 0, 0, 0x40, 0), api.OK},
		"rows":           {begin + with(4, 0, 0, 0x40, 1), api.ErrArg},
		"all":            {begin + with(0, 255, 255, 255, 255), api.ErrArg},
		"high":           {begin + with(0, 1), api.ErrArg},
		"depth":          {begin + with(8, 7), api.ErrKind},
		"color":          {begin + with(9, 5), api.ErrKind},
		"both":           {begin + with(8, 16, 3), api.ErrKind},
		"lace":           {begin + with(12, 2), api.ErrKind},
		"arg ahead":      {begin + with(7, 0, 9, 9), api.ErrArg},
		"most, both, 16": {begin + with(0, 0, 0, 0x40, 0, 0, 0, 0x40, 0, 16), api.OK}, // more than Decode takes
	} {
		b := []byte(c.b)
		h, e := png.Info(b)
		if e != c.want || (e == api.OK) == (h == png.Head{}) {
			t.Errorf("P902: %s: %v, %v; want %v", name, h, e, c.want)
		}
		if !bytes.Equal(b, []byte(c.b)) {
			t.Errorf("P2: %s: what was handed in is changed", name)
		}
		if c.want != api.OK && len(c.b) > 20 {
			refuses(t, "P903: Info's error: "+name, append(b, chunk("IEND", nil)...), 1<<30, c.want)
		}
	}
}
