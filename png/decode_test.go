package png_test

import (
	"bytes"
	"math"
	"slices"
	"strconv"
	"testing"

	"phosphor/api"
	"phosphor/png"
)

var (
	end      = of("IEND")
	text     = of("teXt", 1, 2, 3)
	critical = of("ABCD")
)

// small is a head of one pixel, eight bits.
func small(color int) png.Chunk { return head(png.Head{W: 1, H: 1, Depth: 8, Color: color}) }

// one is an IDAT for it, all zeros.
func one(color int) png.Chunk { return idat(make([]byte, 1+per[color])...) }

func colors(n int) png.Chunk { return of("PLTE", make([]byte, 3*n)...) }

func clears(n int) png.Chunk { return of("tRNS", make([]byte, n)...) }

func TestP903Chunks(t *testing.T) {
	form, kind, ok := api.ErrForm, api.ErrKind, api.OK
	for i, c := range []struct {
		color int
		l     []png.Chunk // between IHDR and IEND
		want  api.Errno
	}{
		{0, []png.Chunk{one(0)}, ok}, {2, []png.Chunk{one(2)}, ok}, {4, []png.Chunk{one(4)}, ok}, {6, []png.Chunk{one(6)}, ok}, {3, []png.Chunk{colors(1), one(3)}, ok},
		{0, []png.Chunk{small(0), one(0)}, form}, {0, []png.Chunk{one(0), small(0)}, form}, {0, []png.Chunk{of("IHDR"), one(0)}, form}, {0, []png.Chunk{text, one(0), text, of("IHDR")}, form}, {0, []png.Chunk{of("iHDR"), one(0)}, ok},
		// PLTE
		{3, []png.Chunk{colors(256), one(3)}, ok}, {3, []png.Chunk{colors(257), one(3)}, form}, {3, []png.Chunk{colors(0), one(3)}, form}, {3, []png.Chunk{of("PLTE", 1), one(3)}, form},
		{3, []png.Chunk{of("PLTE", 1, 2), one(3)}, form}, {3, []png.Chunk{of("PLTE", 1, 2, 3, 4), one(3)}, form}, {3, []png.Chunk{of("PLTE", make([]byte, 767)...), one(3)}, form},
		{3, []png.Chunk{colors(1), colors(1), one(3)}, form}, {3, []png.Chunk{one(3), colors(1)}, form}, {3, []png.Chunk{colors(1), one(3), colors(1)}, form}, {3, []png.Chunk{one(3)}, form}, {3, []png.Chunk{of("pLTE", 1, 2, 3), one(3)}, form},
		{2, []png.Chunk{colors(1), one(2)}, ok}, {2, []png.Chunk{colors(256), one(2)}, ok}, {2, []png.Chunk{colors(257), one(2)}, form}, {2, []png.Chunk{colors(0), one(2)}, form}, {2, []png.Chunk{of("PLTE", 1, 2, 3, 4, 5), one(2)}, form},
		{2, []png.Chunk{colors(1), colors(1), one(2)}, form}, {2, []png.Chunk{one(2), colors(1)}, form},
		{6, []png.Chunk{colors(1), one(6)}, ok}, {6, []png.Chunk{colors(256), one(6)}, ok}, {6, []png.Chunk{colors(257), one(6)}, form}, {6, []png.Chunk{colors(0), one(6)}, form}, {6, []png.Chunk{colors(2), text, colors(2), one(6)}, form},
		{0, []png.Chunk{colors(1), one(0)}, form}, {4, []png.Chunk{colors(1), one(4)}, form}, {0, []png.Chunk{colors(0), one(0)}, form},
		// tRNS
		{3, []png.Chunk{colors(3), clears(3), one(3)}, ok}, {3, []png.Chunk{colors(3), clears(0), one(3)}, ok}, {3, []png.Chunk{colors(3), clears(4), one(3)}, form}, {3, []png.Chunk{colors(256), clears(256), one(3)}, ok}, {3, []png.Chunk{colors(256), clears(257), one(3)}, form},
		{3, []png.Chunk{clears(1), colors(3), one(3)}, form}, {3, []png.Chunk{clears(0), colors(3), one(3)}, form}, {3, []png.Chunk{colors(3), clears(1), clears(1), one(3)}, form}, {3, []png.Chunk{colors(3), clears(0), clears(0), one(3)}, form},
		{3, []png.Chunk{colors(3), one(3), clears(1)}, form}, {3, []png.Chunk{colors(3), clears(1), one(3), clears(1)}, form}, {3, []png.Chunk{colors(3), text, clears(1), text, one(3)}, ok},
		{0, []png.Chunk{clears(2), one(0)}, ok}, {0, []png.Chunk{clears(1), one(0)}, form}, {0, []png.Chunk{clears(3), one(0)}, form}, {0, []png.Chunk{clears(0), one(0)}, form}, {0, []png.Chunk{clears(6), one(0)}, form},
		{0, []png.Chunk{clears(2), clears(2), one(0)}, form}, {0, []png.Chunk{one(0), clears(2)}, form}, {0, []png.Chunk{of("trNS"), of("tRnS"), one(0)}, ok},
		{2, []png.Chunk{clears(6), one(2)}, ok}, {2, []png.Chunk{clears(5), one(2)}, form}, {2, []png.Chunk{clears(7), one(2)}, form}, {2, []png.Chunk{clears(2), one(2)}, form}, {2, []png.Chunk{clears(3), one(2)}, form}, {2, []png.Chunk{clears(0), one(2)}, form},
		{2, []png.Chunk{colors(1), clears(6), one(2)}, ok}, {2, []png.Chunk{clears(6), clears(6), one(2)}, form}, {2, []png.Chunk{one(2), clears(6)}, form}, {2, []png.Chunk{clears(6), colors(1), one(2)}, ok},
		{4, []png.Chunk{clears(2), one(4)}, form}, {4, []png.Chunk{clears(4), one(4)}, form}, {4, []png.Chunk{clears(0), one(4)}, form}, {6, []png.Chunk{clears(8), one(6)}, form}, {6, []png.Chunk{clears(6), one(6)}, form}, {6, []png.Chunk{clears(0), one(6)}, form}, {6, []png.Chunk{colors(9), clears(6), one(6)}, form},
		// IDAT
		{0, nil, form}, {0, []png.Chunk{text, of("iDAT", one(0).Data...)}, form}, {2, []png.Chunk{colors(1)}, form}, {3, []png.Chunk{colors(1)}, form},
		{0, []png.Chunk{one(0), of("IDAT")}, ok}, {0, []png.Chunk{of("IDAT"), of("IDAT"), one(0), of("IDAT")}, ok}, {0, []png.Chunk{one(0), text, of("IDAT")}, form}, {0, []png.Chunk{of("IDAT"), text, one(0)}, form},
		{0, []png.Chunk{text, one(0), text, text}, ok}, {0, []png.Chunk{of("IDAT"), of("iDAT"), one(0)}, form}, {0, []png.Chunk{one(0), text, text, one(0)}, form},
		// others
		{0, []png.Chunk{critical, one(0)}, kind}, {0, []png.Chunk{one(0), critical}, kind}, {0, []png.Chunk{of("Abcd"), one(0)}, kind}, {0, []png.Chunk{of("Zbcd"), one(0)}, kind}, {0, []png.Chunk{of("aBCD"), of("zBCD", 1), one(0)}, ok},
		{0, []png.Chunk{of("IEnD"), one(0)}, kind}, {0, []png.Chunk{of("Idat"), one(0)}, kind}, {3, []png.Chunk{of("PLTe", 1, 2, 3), one(3)}, kind}, {0, []png.Chunk{of("TRNS", 1), one(0)}, kind}, {0, []png.Chunk{of("IHdR"), one(0)}, kind},
		// the first fault is told
		{0, []png.Chunk{critical, small(0), one(0)}, kind}, {0, []png.Chunk{small(0), critical, one(0)}, form}, {0, []png.Chunk{critical}, kind}, {3, []png.Chunk{critical, clears(1), one(3)}, kind}, {3, []png.Chunk{clears(1), critical, colors(1), one(3)}, form},
		{0, []png.Chunk{one(0), text, one(0), critical}, form}, {0, []png.Chunk{one(0), critical, one(0)}, kind}, {6, []png.Chunk{critical, clears(8)}, kind}, {6, []png.Chunk{clears(8), critical}, form}, {0, []png.Chunk{of("IDAT", 1), critical}, kind}, {3, []png.Chunk{one(3), critical}, kind},
		{0, []png.Chunk{colors(1), critical}, form}, {0, []png.Chunk{critical, colors(1)}, kind}, {3, []png.Chunk{of("PLTE", 1), critical}, form}, {2, []png.Chunk{clears(5), critical}, form}, {3, []png.Chunk{colors(1), clears(2), critical}, form},
	} {
		l := slices.Concat([]png.Chunk{small(c.color)}, c.l)
		refuses(t, "P903: "+strconv.Itoa(i), file(append(l, end)...), 1, c.want)
		want := c.want // an end with data, behind all else
		if want == api.OK {
			want = api.ErrForm
		}
		refuses(t, "P903: "+strconv.Itoa(i)+", IEND", file(append(l, of("IEND", 0))...), 1, want)
	}
}

func TestP903ColoursOfADepth(t *testing.T) {
	for depth := 1; depth <= 8; depth *= 2 {
		for _, n := range []int{1, 2, 3, 4, 5, 15, 16, 17, 255, 256} {
			want := api.OK
			if n > 1<<depth {
				want = api.ErrForm
			}
			h := head(png.Head{W: 1, H: 1, Depth: depth, Color: 3})
			refuses(t, "P903: "+strconv.Itoa(n)+" of "+strconv.Itoa(depth), file(h, colors(n), idat(0, 0), end), 1, want)
		}
	}
	for _, color := range []int{2, 6} { // Depth names nothing there
		h := head(png.Head{W: 1, H: 1, Depth: 16, Color: color})
		refuses(t, "P903: 16", file(h, colors(256), idat(make([]byte, 1+2*per[color])...), end), 1, api.OK)
	}
}

func TestP903Pixels(t *testing.T) {
	b := file(head(png.Head{W: 3, H: 5, Depth: 8, Color: 0}), idat(make([]byte, 20)...), end)
	for pixels, want := range map[int]api.Errno{
		15: api.OK, 16: api.OK, math.MaxInt: api.OK, 1 << 40: api.OK,
		14: api.ErrLong, 1: api.ErrLong, 0: api.ErrLong, -1: api.ErrLong, -15: api.ErrLong, math.MinInt: api.ErrLong,
	} {
		refuses(t, "P903: pixels "+strconv.Itoa(pixels), b, pixels, want)
	}
	for _, c := range []struct {
		w, h int
		want api.Errno
	}{
		{1 << 14, 1 << 12, api.ErrForm}, {1 << 13, 1 << 13, api.ErrForm}, // there is no IDAT; that is asked behind the pixels
		{1 << 14, 1<<12 + 1, api.ErrLong}, {1<<13 + 1, 1 << 13, api.ErrLong}, {1 << 14, 1 << 14, api.ErrLong},
	} {
		h := head(png.Head{W: c.w, H: c.h, Depth: 1, Color: 0})
		for _, pixels := range []int{math.MaxInt, 1 << 28, 1 << 27, c.w * c.h} {
			refuses(t, "P903: "+strconv.Itoa(c.w)+" by "+strconv.Itoa(c.h), file(h, end), pixels, c.want)
		}
		refuses(t, "P903: one pixel less", file(h, end), c.w*c.h-1, api.ErrLong)
		refuses(t, "P903: data that lacks", file(h, idat(0, 0, 0), end), min(c.w*c.h, 1<<26), map[api.Errno]api.Errno{api.ErrForm: api.ErrForm, api.ErrLong: api.ErrLong}[c.want])
	}
	// ahead of what the chunks say; behind Chunks' errors and Info's
	refuses(t, "P903: long ahead of kind", file(head(png.Head{W: 3, H: 5, Depth: 8}), critical, end), 14, api.ErrLong)
	refuses(t, "P903: long ahead of form", file(head(png.Head{W: 3, H: 5, Depth: 8}), small(0), of("IEND", 1)), 14, api.ErrLong)
	refuses(t, "P903: sum ahead of long", append(file(small(0)), "\x00\x00\x00\x00IEND\x00\x00\x00\x00"...), 0, api.ErrSum)
	refuses(t, "P903: short ahead of long", file(small(0)), 0, api.ErrShort)
	refuses(t, "P903: arg ahead of long", file(head(png.Head{W: 3, H: 0, Depth: 8}), end), -1, api.ErrArg)
	refuses(t, "P903: kind ahead of long", file(head(png.Head{W: 3, H: 1, Depth: 9}), end), -1, api.ErrKind)
	refuses(t, "P903: sum behind all", append(file(head(png.Head{W: 3, H: 0, Depth: 8}), critical), "\x00\x00\x00\x00IEND\x00\x00\x00\x00"...), 9, api.ErrSum)
	refuses(t, "P903: no IHDR", file(one(0), end), 9, api.ErrForm)
	refuses(t, "P903: the end alone", file(end), 9, api.ErrForm)
	refuses(t, "P903: IHDR second", file(text, small(0), one(0), end), 9, api.ErrForm)
}

func TestP903Data(t *testing.T) {
	s := numbers(3)
	for _, color := range kinds {
		for _, depth := range depths[color] {
			for lace := range 2 {
				d := s.drawn(png.Head{W: 5, H: 3, Depth: depth, Color: color, Lace: lace})
				raw := s.raw(d)
				between := []png.Chunk{head(d.h)}
				if color == 3 {
					between = append(between, of("PLTE", d.palette...))
				}
				with := func(rows []byte, behind ...byte) []byte {
					data := of("IDAT", append(pack(rows, 6), behind...)...)
					return file(append(slices.Clone(between), data, end)...)
				}
				name := "P903: " + strconv.Itoa(color) + ", " + strconv.Itoa(depth) + ", " + strconv.Itoa(lace) + ": "
				refuses(t, name+"just these", with(raw), 15, api.OK)
				refuses(t, name+"one more", with(append(slices.Clone(raw), 0)), 15, api.ErrLong)
				refuses(t, name+"many more", with(append(slices.Clone(raw), make([]byte, 5000)...)), 15, api.ErrLong)
				refuses(t, name+"one fewer", with(raw[:len(raw)-1]), 15, api.ErrForm)
				refuses(t, name+"none", with(nil), 15, api.ErrForm)
				refuses(t, name+"a byte behind", with(raw, 0), 15, api.ErrForm)
				packed := pack(raw, 6)
				for i := range packed { // a front, in one IDAT or two
					refuses(t, name+"short", file(append(slices.Clone(between), of("IDAT", packed[:i]...), end)...), 15, api.ErrShort)
					refuses(t, name+"short in two", file(append(slices.Clone(between), of("IDAT", packed[:i/2]...), of("IDAT", packed[i/2:i]...), end)...), 15, api.ErrShort)
				}
				for i := len(packed) - 4; i < len(packed); i++ {
					bad := slices.Clone(packed)
					bad[i] ^= 16
					refuses(t, name+"sum", file(append(slices.Clone(between), of("IDAT", bad...), end)...), 15, api.ErrSum)
				}
			}
		}
	}
}

func TestP903ZlibsErrors(t *testing.T) {
	for i, c := range []struct {
		data []byte
		want api.Errno
	}{
		{nil, api.ErrShort}, {[]byte{0x78}, api.ErrShort}, {[]byte{0x79}, api.ErrForm}, {[]byte{0x88}, api.ErrForm}, {[]byte{0x78, 0x02}, api.ErrForm}, {[]byte{0x78, 0x20}, api.ErrForm},
		{[]byte{0x78, 0x01, 7}, api.ErrForm}, // a block's kind 3
		{append([]byte{0x78, 0x01, 1, 2, 0, 0xFD, 0xFF, 0, 9}, 0, 11, 0, 10), api.OK},
		{append([]byte{0x78, 0x01, 1, 2, 0, 0xFD, 0xFF, 0, 9}, 0, 11, 0, 11), api.ErrSum},
		{append([]byte{0x78, 0x01, 1, 2, 0, 0xFD, 0xFF, 0, 9}, 0, 11, 0, 10, 0), api.ErrForm},
		{append([]byte{0x78, 0x01, 1, 2, 0, 0xFD, 0xFF, 5, 9}, 0, 21, 0, 15), api.ErrForm},           // a filter that is none
		{append([]byte{0x78, 0x01, 1, 2, 0, 0xFD, 0xFF, 5, 9}, 0, 21, 0, 16), api.ErrSum},            // the sum ahead of the filter
		{append([]byte{0x78, 0x01, 1, 1, 0, 0xFE, 0xFF, 5}, 0, 6, 0, 7), api.ErrSum},                 // the sum ahead of fewer bytes
		{append([]byte{0x78, 0x01, 1, 3, 0, 0xFC, 0xFF, 0, 9, 9}, 0, 0, 0, 0), api.ErrLong},          // more bytes ahead of the sum
		{append([]byte{0x78, 0x01, 1, 3, 0, 0xFC, 0xFF, 5, 9}, []byte{}...), api.ErrShort},           // short ahead of the filter
		{append([]byte{0x78, 0x01, 0, 2, 0, 0xFD, 0xFF, 0, 9}, 1, 0, 0, 0xFE, 0xFF), api.ErrForm},    // a length that does not fit its complement
		{append([]byte{0x78, 0x01, 0, 2, 0, 0xFD, 0xFF, 0, 9}, 1, 1, 0, 0xFE, 0xFF, 1), api.ErrLong}, // one too many, in a block of its own
	} {
		refuses(t, "P903: zlib "+strconv.Itoa(i), file(small(0), of("IDAT", c.data...), end), 9, c.want)
	}
}

func TestP903Filters(t *testing.T) {
	for lace := range 2 {
		d := drawing{h: png.Head{W: 3, H: 4, Depth: 8, Lace: lace}, s: make([]int, 12)}
		s := numbers(4)
		raw := s.raw(d)
		at := 0
		for _, rows := range d.lines() {
			for _, row := range rows {
				for v := range 256 {
					bad := slices.Clone(raw)
					bad[at] = byte(v)
					want := api.OK
					if v > 4 {
						want = api.ErrForm
					}
					refuses(t, "P903: filter "+strconv.Itoa(v), file(head(d.h), idat(bad...), end), 12, want)
				}
				at += 1 + len(row)
			}
		}
		if at != len(raw) {
			t.Fatalf("%d rows' bytes of %d", at, len(raw))
		}
	}
}

func TestP903NoColour(t *testing.T) {
	for depth := 1; depth <= 8; depth *= 2 {
		for lace := range 2 {
			for n := 1; n <= 1<<depth; n++ {
				h := png.Head{W: 3, H: 3, Depth: depth, Color: 3, Lace: lace}
				for _, at := range []int{0, 4, 8} {
					d := drawing{h: h, s: make([]int, 9), palette: make([]byte, 3*n)}
					s := numbers(n)
					for _, v := range []int{n - 1, n, 1<<depth - 1} { // the last one, and beyond
						if v >= 1<<depth {
							continue
						}
						d.s[at] = v
						want := api.OK
						if v >= n {
							want = api.ErrForm
						}
						b := file(head(h), of("PLTE", d.palette...), idat(s.raw(d)...), end) // bits beyond a row name nothing
						refuses(t, "P903: "+strconv.Itoa(v)+" of "+strconv.Itoa(n), b, 9, want)
					}
				}
			}
		}
	}
}

// oracle is the order of P903's chunks, read off a list that may be looked at from any place.
func oracle(h png.Head, l []png.Chunk) api.Errno {
	count := func(l []png.Chunk, kind string) (n int) {
		for _, c := range l {
			if c.Kind == kind {
				n++
			}
		}
		return n
	}
	size := func(l []png.Chunk, kind string) int {
		return len(l[slices.IndexFunc(l, func(c png.Chunk) bool { return c.Kind == kind })].Data)
	}
	for i, c := range l {
		ahead, n := l[:i], len(c.Data)
		bad := false
		switch c.Kind {
		case "IHDR":
			bad = i > 0
		case "PLTE":
			bad = count(ahead, "PLTE")+count(ahead, "IDAT") > 0 || h.Color == 0 || h.Color == 4 || n%3 > 0 || n/3 < 1 || n/3 > 256 || h.Color == 3 && n/3 > 1<<h.Depth
		case "tRNS":
			bad = count(ahead, "tRNS")+count(ahead, "IDAT") > 0 || h.Color == 3 && (count(ahead, "PLTE") == 0 || n > size(ahead, "PLTE")/3) || h.Color == 0 && n != 2 || h.Color == 2 && n != 6 || h.Color == 4 || h.Color == 6
		case "IDAT":
			bad = count(ahead, "IDAT") > 0 && l[i-1].Kind != "IDAT"
		case "IEND":
			bad = n > 0
		default:
			if c.Kind[0] < 'a' {
				return api.ErrKind
			}
		}
		if bad {
			return api.ErrForm
		}
	}
	if count(l, "IDAT") == 0 || h.Color == 3 && count(l, "PLTE") == 0 {
		return api.ErrForm
	}
	return api.OK
}

func TestP903ChunksInAnyOrder(t *testing.T) {
	s := numbers(5)
	told := map[api.Errno]int{}
	for range 60000 {
		color := []int{0, 2, 3, 3, 4, 6}[s.below(6)]
		h := png.Head{W: 1, H: 1, Depth: depths[color][s.below(len(depths[color]))], Color: color}
		l := []png.Chunk{head(h)}
		for range s.below(6) {
			switch s.below(14) {
			case 0:
				l = append(l, head(h))
			case 1:
				l = append(l, critical)
			case 2, 3:
				l = append(l, text)
			case 4:
				l = append(l, of("PLTE", make([]byte, s.below(12))...))
			case 5, 6, 7:
				l = append(l, colors(1+s.below(3)))
			case 8:
				l = append(l, clears(s.below(8)))
			case 9, 10:
				l = append(l, clears(2*per[color]), clears(2*per[color]))
				l = l[:len(l)-s.below(2)]
			default:
				l = append(l, of("IDAT"))
			}
		}
		data := of("IDAT", pack(make([]byte, 1+(per[color]*h.Depth+7)/8), 6)...)
		at := len(l)
		for i, c := range l { // the stream begins in the first IDAT
			if c.Kind == "IDAT" {
				at = i
			}
		}
		if s.below(8) > 0 {
			l = slices.Insert(l, at, data)
		}
		if s.below(8) > 0 {
			l = append(l, end)
		} else {
			l = append(l, of("IEND", 1))
		}
		want := oracle(h, l)
		m, e := png.Decode(file(l...), 1)
		if want == api.OK && !slices.ContainsFunc(l, func(c png.Chunk) bool { return c.Kind == "IDAT" && len(c.Data) > 0 }) {
			want = api.ErrShort
		}
		if e != want || e != api.OK && m.P != nil {
			t.Fatalf("P903: %v, %v: %v; want %v", h, l, e, want)
		}
		told[e]++
	}
	if told[api.OK] < 2000 || told[api.ErrForm] < 2000 || told[api.ErrKind] < 2000 {
		t.Errorf("too few of a kind: %v", told)
	}
}

// Whatever comes, Decode ends, and tells the same of the same.
func TestP903Anything(t *testing.T) {
	s := numbers(6)
	for range 6000 {
		color := kinds[s.below(5)]
		h := png.Head{W: 1 + s.below(9), H: 1 + s.below(9), Depth: depths[color][s.below(len(depths[color]))], Color: color, Lace: s.below(2)}
		l := s.chunks(s.drawn(h))
		for range 1 + s.below(3) { // sums fit again: the fault is in what they are of
			if c := &l[s.below(len(l))]; len(c.Data) > 0 {
				c.Data = slices.Clone(c.Data)
				c.Data[s.below(len(c.Data))] ^= 1 << s.below(8)
			}
			if s.below(4) == 0 {
				i, j := s.below(len(l)), s.below(len(l))
				l[i], l[j] = l[j], l[i]
			}
		}
		b := file(l...)
		if s.below(3) == 0 {
			b = b[:s.below(len(b)+1)]
		}
		pixels := s.below(100)
		m, e := png.Decode(b, pixels)
		if e != api.OK && (m.W != 0 || m.H != 0 || m.P != nil) || e == api.OK && (m.W*m.H > pixels || len(m.P) != 4*m.W*m.H) {
			t.Fatalf("P903: % x: %d by %d, %v", b, m.W, m.H, e)
		}
		again, f := png.Decode(b, pixels)
		if e != f || !bytes.Equal(again.P, m.P) {
			t.Fatalf("P3: % x: %v, then %v", b, e, f)
		}
	}
}

func TestP903NewMemory(t *testing.T) {
	s := numbers(7)
	for _, color := range kinds {
		d := s.drawn(png.Head{W: 4, H: 4, Depth: 8, Color: color})
		b := file(s.chunks(d)...)
		kept := slices.Clone(b)
		m, _ := png.Decode(b, 16)
		n, _ := png.Decode(b, 16)
		clear(m.P[:cap(m.P)])
		if !bytes.Equal(b, kept) || !bytes.Equal(n.P, d.pixels().P) {
			t.Errorf("P2: %d: a matrix is somebody else's", color)
		}
		clear(b)
		if !bytes.Equal(n.P, d.pixels().P) {
			t.Errorf("P2: %d: a matrix is the file's", color)
		}
	}
}
