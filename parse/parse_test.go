package parse_test

import (
	"bytes"
	"slices"
	"strings"
	"testing"

	"phosphor/parse"
	"phosphor/utf"
)

type event = parse.Event

func print(text string) (l []event) {
	for _, r := range text {
		l = append(l, event{Kind: parse.Print, R: r})
	}
	return l
}

func exec(b byte) event { return event{Kind: parse.Exec, B: b} }

func data(kind int, text string) event { return event{Kind: kind, Data: []byte(text)} }

func all(parts ...[]event) []event { return slices.Concat(parts...) }

func csi(private byte, inter string, b byte, params ...int) event {
	return event{Kind: parse.Csi, Private: private, Inter: inter, B: b, Params: params}
}

func esc(inter string, b byte) event { return event{Kind: parse.Esc, Inter: inter, B: b} }

var (
	dcsQ     = event{Kind: parse.DcsStart, B: 'q'}
	apcStart = event{Kind: parse.ApcStart}
)

func dcsEnd(b byte) event { return event{Kind: parse.DcsEnd, B: b} }
func apcEnd(b byte) event { return event{Kind: parse.ApcEnd, B: b} }

// said is bytes and what they are.
type said struct {
	in   string
	want []event
}

// told holds what a new parser tells, at once and byte by byte, against what is wanted and the model.
func told(t *testing.T, l []said) {
	t.Helper()
	for _, c := range l {
		if got := parse.Join(parse.New().Feed([]byte(c.in))...); !same(got, c.want) {
			t.Errorf("%q: %v; want %v", c.in, got, c.want)
		}
		check(t, []byte(c.in))
	}
}

func TestP1101Ground(t *testing.T) {
	told(t, []said{
		{"", nil},
		{"a~ ", print("a~ ")},
		{"\x00\x17\x19\x1C\x1F", []event{exec(0), exec(0x17), exec(0x19), exec(0x1C), exec(0x1F)}},
		{"a\x7Fb", print("ab")},
		{"\xE2\x82\xAC", print("\u20AC")},
		{"\xE2\x82\n", all(print("\uFFFD"), []event{exec('\n')})},
		{"\xE2\x82\x7F", print("\uFFFD")},
		{"\xE2\x82\x7F\xAC", print("\uFFFD\uFFFD")},
		{"\xE2\x82a", print("\uFFFDa")},
		{"\xE2\x82\x18", all(print("\uFFFD"), []event{exec(0x18)})},
		{"\xE2\x82\x1A", all(print("\uFFFD"), []event{exec(0x1A)})},
		{"\xE2\x82\x1B7", all(print("\uFFFD"), []event{esc("", '7')})},
		{"\xE2\x82", nil},
		{"\x9B1m\x90q\x9C", print("\uFFFD1m\uFFFDq\uFFFD")}, // no control is above 7F
		{"\xC2\x9B1m", print("\u009B1m")},
	})
}

func TestP1101Escape(t *testing.T) {
	told(t, []said{
		{"\x1B7\x1Bc\x1B~\x1B0", []event{esc("", '7'), esc("", 'c'), esc("", '~'), esc("", '0')}},
		{"\x1B\\", []event{esc("", '\\')}},
		{"\x1B(0\x1B /a", []event{esc("(", '0'), esc(" /", 'a')}},
		{"\x1B(P\x1B)[\x1B*]\x1B+_\x1B#X\x1B ^", []event{esc("(", 'P'), esc(")", '['), esc("*", ']'), esc("+", '_'), esc("#", 'X'), esc(" ", '^')}},
		{"\x1B !\"0x", print("x")}, // a third one
		{"\x1B !\"#$%[x", print("x")},
		{"\x1B !\"\x1B(0", []event{esc("(", '0')}},
		{"\x1B !\"\n0x", all([]event{exec('\n')}, print("x"))},
		{"\x1B !\"\xC3\xA90", print("\u00E90")},
		{"\x1B\n7", []event{exec('\n'), esc("", '7')}},
		{"\x1B(\x00\x1F0", []event{exec(0), exec(0x1F), esc("(", '0')}},
		{"\x1B\x7F(\x7F0", []event{esc("(", '0')}},
		{"\x1B\x1B\x1B7", []event{esc("", '7')}},
		{"\x1B(\x1B7", []event{esc("", '7')}},
		{"\x1B(\x180", all([]event{exec(0x18)}, print("0"))},
		{"\x1B\x1A0", all([]event{exec(0x1A)}, print("0"))},
		{"\x1B\xC3\xA9", print("\u00E9")},
		{"\x1B(\x80", print("\uFFFD")},
		{"\x1B(\xFF0", print("\uFFFD0")},
	})
}

func TestP1101Csi(t *testing.T) {
	told(t, []said{
		{"\x1B[m\x1B[@\x1B[~", []event{csi(0, "", 'm'), csi(0, "", '@'), csi(0, "", '~')}},
		{"\x1B[1m\x1B[12;34H", []event{csi(0, "", 'm', 1), csi(0, "", 'H', 12, 34)}},
		{"\x1B[?25h\x1B[>c\x1B[<0;1M\x1B[=1;1u", []event{csi('?', "", 'h', 25), csi('>', "", 'c'), csi('<', "", 'M', 0, 1), csi('=', "", 'u', 1, 1)}},
		{"\x1B[!p\x1B[?2$p\x1B[ /q", []event{csi(0, "!", 'p'), csi('?', "$", 'p', 2), csi(0, " /", 'q')}},
		{"\x1B[ !\"p", nil},               // a third one
		{"\x1B[1?h\x1B[;?h\x1B[??h", nil}, // not the first byte
		{"\x1B[!?h\x1B[:?h", nil},
		{"\x1B[1:2m\x1B[:m\x1B[!:p", nil},
		{"\x1B[!1p\x1B[!;p\x1B[1!0p", nil}, // behind a kept byte
		{"\x1B[1:2;3mx", print("x")},
		{"\x1B[:\n\tm", []event{exec('\n'), exec('\t')}},
		{"\x1B[1\nm\x1B[1\r2m", []event{exec('\n'), csi(0, "", 'm', 1), exec('\r'), csi(0, "", 'm', 12)}},
		{"\x1B[\x7F?\x7F1\x7F2\x7F!\x7Fp", []event{csi('?', "!", 'p', 12)}},
		{"\x1B[\n?1h", []event{exec('\n'), csi('?', "", 'h', 1)}},
		{"\x1B[1\x182", all([]event{exec(0x18)}, print("2"))},
		{"\x1B[1\x1Am", all([]event{exec(0x1A)}, print("m"))},
		{"\x1B[1\x1B[2m", []event{csi(0, "", 'm', 2)}},
		{"\x1B[?1!\x1B[m", []event{csi(0, "", 'm')}}, // nothing is left of what was kept
		{"\x1B[?1!\x1B7", []event{esc("", '7')}},
		{"\x1B[1\xC3\xA9m", print("\u00E9m")},
		{"\x1B[\x80", print("\uFFFD")},
		{"\x1B[:\xFFm", print("\uFFFDm")},
	})
}

func TestP1101Parameters(t *testing.T) {
	sixteen := "1;2;3;4;5;6;7;8;9;10;11;12;13;14;15;16"
	most := []int{1, 2, 3, 4, 5, 6, 7, 8, 9, 10, 11, 12, 13, 14, 15, 16}
	told(t, []said{
		{"\x1B[0m\x1B[;m\x1B[;;m", []event{csi(0, "", 'm', 0), csi(0, "", 'm', 0, 0), csi(0, "", 'm', 0, 0, 0)}},
		{"\x1B[1;m\x1B[;1m\x1B[?;h", []event{csi(0, "", 'm', 1, 0), csi(0, "", 'm', 0, 1), csi('?', "", 'h', 0, 0)}},
		{"\x1B[007;0000000000009m", []event{csi(0, "", 'm', 7, 9)}},
		{"\x1B[65534m\x1B[65535m\x1B[65536m", []event{csi(0, "", 'm', 65534), csi(0, "", 'm', 65535), csi(0, "", 'm', 65535)}},
		{"\x1B[655350;99999999999999999999999999;1m", []event{csi(0, "", 'm', 65535, 65535, 1)}},
		{"\x1B[18446744073709551617m", []event{csi(0, "", 'm', 65535)}}, // 1 << 64 and 1
		{"\x1B[" + sixteen + "m", []event{csi(0, "", 'm', most...)}},
		{"\x1B[" + sixteen + ";m", []event{csi(0, "", 'm', most...)}},
		{"\x1B[" + sixteen + ";99;98!p", []event{csi(0, "!", 'p', most...)}},
		{"\x1BP" + sixteen + ";99;q", []event{{Kind: parse.DcsStart, B: 'q', Params: most}}},
		{"\x1B[" + strings.Repeat(";", 500) + "m", []event{csi(0, "", 'm', make([]int, 16)...)}},
		{"\x1B[" + strings.Repeat(";", 14) + "7;8m", []event{csi(0, "", 'm', 0, 0, 0, 0, 0, 0, 0, 0, 0, 0, 0, 0, 0, 0, 7, 8)}},
	})
}

func TestP1101Osc(t *testing.T) {
	title := event{Kind: parse.Osc, Data: []byte("0;ti")}
	long := strings.Repeat("0123456789abcdef", 64) // 1024
	told(t, []said{
		{"\x1B]0;ti\x07x", all([]event{title}, print("x"))},
		{"\x1B]0;ti\x1B\\x", all([]event{title}, print("x"))},
		{"\x1B]\x07\x1B]\x1B\\", []event{{Kind: parse.Osc}, {Kind: parse.Osc}}},
		{"\x1B]0\n;\x00t\x7Fi\x1F\x07", []event{title}},
		{"\x1B]\xC3\xA9\x80\xFF~ \x07", []event{data(parse.Osc, "\xC3\xA9\x80\xFF~ ")}},
		{"\x1B]" + long[1:] + "\x07", []event{data(parse.Osc, long[1:])}},
		{"\x1B]" + long + "\x07", []event{data(parse.Osc, long)}},
		{"\x1B]" + long + "+\x07", []event{data(parse.Osc, long)}},
		{"\x1B]0;ti\x18z", all([]event{exec(0x18)}, print("z"))},
		{"\x1B]0;ti\x1Az", all([]event{exec(0x1A)}, print("z"))},
		{"\x1B]0;ti\x1B[m\x1B]\x07", []event{csi(0, "", 'm'), {Kind: parse.Osc}}},
		{"\x1B]0;ti\x1B\x07", []event{exec(7)}},
		{"\x1B]0;ti\x1B\x1B\\", []event{esc("", '\\')}},
		{"\x1B]0;ti\x1B\x1A\\", all([]event{exec(0x1A)}, print("\\"))},
		{"\x1B]0;ti\x1B\xC3\xA9", print("\u00E9")},
		{"\x1B]0;ti\x1B\x7F\\", []event{esc("", '\\')}},
		{"\x1B]0;ti\x1B]0;ti\x07", []event{title}},
	})
}

func TestP1101Dcs(t *testing.T) {
	told(t, []said{
		{"\x1BPq\x1B\\x", all([]event{dcsQ, dcsEnd(1)}, print("x"))},
		{"\x1BP?1;2$ rab\x1B\\", []event{{Kind: parse.DcsStart, Private: '?', Params: []int{1, 2}, Inter: "$ ", B: 'r'}, data(parse.DcsData, "ab"), dcsEnd(1)}},
		{"\x1BP1\n\x00;2q", []event{{Kind: parse.DcsStart, Params: []int{1, 2}, B: 'q'}}}, // controls are nothing here
		{"\x1BP\n?\x7F1q", []event{{Kind: parse.DcsStart, Private: '?', Params: []int{1}, B: 'q'}}},
		{"\x1BPq#\x7F\x7F1\x07\n\x00\xC3\xFF~", []event{dcsQ, data(parse.DcsData, "#1\x07\n\x00\xC3\xFF~")}},
		{"\x1BPq#\x18z", all([]event{dcsQ, data(parse.DcsData, "#"), dcsEnd(0), exec(0x18)}, print("z"))},
		{"\x1BPq\x1Az", all([]event{dcsQ, dcsEnd(0), exec(0x1A)}, print("z"))},
		{"\x1BPq#\x1B\x18z", all([]event{dcsQ, data(parse.DcsData, "#"), dcsEnd(0), exec(0x18)}, print("z"))},
		{"\x1BPq#\x1B\x1Az", all([]event{dcsQ, data(parse.DcsData, "#"), dcsEnd(0), exec(0x1A)}, print("z"))},
		{"\x1BPq#\x1B\x1B\\", []event{dcsQ, data(parse.DcsData, "#"), dcsEnd(0), esc("", '\\')}},
		{"\x1BPq#\x1B[1m", []event{dcsQ, data(parse.DcsData, "#"), dcsEnd(0), csi(0, "", 'm', 1)}},
		{"\x1BPq#\x1BPq#", []event{dcsQ, data(parse.DcsData, "#"), dcsEnd(0), dcsQ, data(parse.DcsData, "#")}},
		{"\x1BPq\x1B\n7", []event{dcsQ, dcsEnd(0), exec('\n'), esc("", '7')}},
		{"\x1BPq\x1B\x7F\\", []event{dcsQ, dcsEnd(0), esc("", '\\')}},
		{"\x1BPq\x1B\xC3\xA9", all([]event{dcsQ, dcsEnd(0)}, print("\u00E9"))},
		{"\x1BP1\x18q", all([]event{exec(0x18)}, print("q"))}, // not open yet
		{"\x1BP1\x1B\\", []event{esc("", '\\')}},
		{"\x1BP1\xC3\xA9q", print("\u00E9q")},
	})
}

func TestP1101DcsThatAreWrong(t *testing.T) {
	for _, head := range []string{"1?", ";?", "??", "1:2", ":", "!1", "!;", " !\"", "!?"} {
		told(t, []said{
			{"\x1BP" + head + "q#\x00\x07\x7F\xC3\n\x1B\\z", print("z")},
			{"\x1BP" + head + "q#\x18z", all([]event{exec(0x18)}, print("z"))},
			{"\x1BP" + head + "\x1Az", all([]event{exec(0x1A)}, print("z"))},
			{"\x1BP" + head + "q#\x1B[m", []event{csi(0, "", 'm')}},
			{"\x1BP" + head + "\x1BPq", []event{dcsQ}},
		})
	}
}

func TestP1101Apc(t *testing.T) {
	told(t, []said{
		{"\x1B_\x1B\\", []event{apcStart, apcEnd(1)}},
		{"\x1B_Ga=q;\x00\x07\n\x7F\xFF\x1B\\x", all([]event{apcStart, data(parse.ApcData, "Ga=q;\x00\x07\n\xFF"), apcEnd(1)}, print("x"))},
		{"\x1B_G\x18", []event{apcStart, data(parse.ApcData, "G"), apcEnd(0), exec(0x18)}},
		{"\x1B_\x1B\x1A", []event{apcStart, apcEnd(0), exec(0x1A)}},
		{"\x1B_G\x1B[A", []event{apcStart, data(parse.ApcData, "G"), apcEnd(0), csi(0, "", 'A')}},
		{"\x1B_G\x1B\x1B_H\x1B\\", []event{apcStart, data(parse.ApcData, "G"), apcEnd(0), apcStart, data(parse.ApcData, "H"), apcEnd(1)}},
		{"\x1B_G\x1B\xE2\x82\xAC", all([]event{apcStart, data(parse.ApcData, "G"), apcEnd(0)}, print("\u20AC"))},
	})
}

func TestP1101Ignored(t *testing.T) {
	told(t, []said{
		{"\x1BXabc\x1B\\d", print("d")},
		{"\x1B^abc\x1B\\d", print("d")},
		{"\x1BX\x00\n\x07\x7F\xC3[m\x1B\\", nil},
		{"\x1BXabc\x18d", all([]event{exec(0x18)}, print("d"))},
		{"\x1B^abc\x1B\x1Ad", all([]event{exec(0x1A)}, print("d"))},
		{"\x1BXabc\x1B[m", []event{csi(0, "", 'm')}},
		{"\x1B^\x1B\x1B\\", []event{esc("", '\\')}},
		{"\x1BX\x1B\xC3\xA9", print("\u00E9")},
	})
}

// ways leads into each state, and half into it.
var ways = []string{
	"", "\xC3", "\xE2\x82", "\x1B", "\x1B(", "\x1B (", "\x1B !\"", "\x1B[", "\x1B[1", "\x1B[1;", "\x1B[?", "\x1B[!", "\x1B[ !", "\x1B[:",
	"\x1BP", "\x1BP1", "\x1BP?", "\x1BP ", "\x1BP !", "\x1BP:", "\x1BPq", "\x1BPq#", "\x1BPq\x1B", "\x1BPq#\x1B", "\x1BP:q", "\x1BP:q\x1B",
	"\x1B]", "\x1B]0", "\x1B]0\x1B", "\x1B_", "\x1B_G", "\x1B_\x1B", "\x1B_G\x1B", "\x1BX", "\x1BXa", "\x1BX\x1B", "\x1B^", "\x1B^\x1B",
}

// edges are bytes at which the table says something else than of the one ahead or behind.
var edges = []byte("\x00\x07\x17\x18\x19\x1A\x1B\x1C\x1F\x20\x2F\x30\x39\x3A\x3B\x3C\x3F\x40P[\\]_X^q~\x7F\x80\xBF\xC3\xFF")

func TestP1101EachByteInEachState(t *testing.T) {
	for _, way := range ways {
		for i := range 256 {
			for _, j := range edges {
				b := append([]byte(way), byte(i), j)
				fed(t, b)
				fed(t, b[:len(way)], b[len(way):len(way)+1], b[len(way)+1:])
			}
		}
	}
}

func TestP1101EdgesByThrees(t *testing.T) {
	for _, way := range ways {
		for _, i := range edges {
			for _, j := range edges {
				for _, k := range edges {
					b := append([]byte(way), i, j, k)
					fed(t, b, []byte("\\m"))
				}
			}
		}
	}
}

// numbers is a short rule for numbers that look like any.
type numbers uint64

func (s *numbers) below(n int) int {
	*s = *s*6364136223846793005 + 1442695040888963407
	return int(uint32(*s>>32) % uint32(n))
}

// bytes are such as a host says: edges, parts of sequences, any.
func (s *numbers) bytes(n int) []byte {
	parts := []string{"\x1B[", "\x1BP", "\x1B]", "\x1B_", "\x1B", "\x1B\\", "1;2", "?25", "q#1", "text", "\xE2\x82\xAC", "\xF0\x9F", "7", "m", ";"}
	var b []byte
	for len(b) < n {
		switch s.below(4) {
		case 0:
			b = append(b, byte(s.below(256)))
		case 1:
			b = append(b, edges[s.below(len(edges))])
		default:
			b = append(b, parts[s.below(len(parts))]...)
		}
	}
	return b
}

func TestP1102AnyBytesInAnyPieces(t *testing.T) {
	s := numbers(1)
	for range 3000 {
		b := s.bytes(s.below(60))
		fed(t, b)
		fed(t, bytewise(b)...)
		var pieces [][]byte
		for len(b) > 0 {
			n := s.below(len(b) + 1)
			pieces = append(pieces, b[:n])
			b = b[n:]
		}
		fed(t, pieces...)
	}
}

func TestP1102LongStreams(t *testing.T) {
	s := numbers(2)
	for range 20 {
		b := s.bytes(20000)
		p, q := parse.New(), parse.New()
		want, ground := plain(b)
		if l := parse.Join(p.Feed(b)...); !same(l, want) || p.Ground() != ground {
			t.Fatal("at once")
		}
		var l []event
		for _, piece := range bytewise(b) {
			l = append(l, q.Feed(piece)...)
		}
		if !same(parse.Join(l...), want) || q.Ground() != ground || q.Room() != p.Room() {
			t.Fatal("byte by byte")
		}
	}
}

func TestP1102DataComeAtOnce(t *testing.T) {
	p := parse.New()
	for _, c := range []struct {
		in   string
		want []event
	}{
		{"\x1BP", nil}, {"q", []event{dcsQ}}, {"", nil}, {"#1", []event{data(parse.DcsData, "#1")}},
		{"\x7F", nil}, {"\x1B", nil}, {"\\", []event{dcsEnd(1)}},
		{"\x1B_", []event{apcStart}}, {"G", []event{data(parse.ApcData, "G")}}, {"\x1B", nil}, {"[", []event{apcEnd(0)}},
		{"m\xC3", []event{csi(0, "", 'm')}}, {"\xA9", print("\u00E9")}, {"\xC3", nil}, {"\xC3", print("\uFFFD")},
		{"\x1B", print("\uFFFD")}, {"]t", nil}, {"i", nil}, {"\x07", []event{data(parse.Osc, "ti")}},
	} {
		if l := p.Feed([]byte(c.in)); !same(l, c.want) {
			t.Errorf("Feed(%q): %v; want %v", c.in, l, c.want)
		}
	}
}

func TestP1102Ground(t *testing.T) {
	for _, way := range ways {
		p := parse.New()
		p.Feed([]byte(way))
		if p.Ground() != (way == "") {
			t.Errorf("Ground behind %q: %v", way, p.Ground())
		}
		p.Feed([]byte{0x18})
		if !p.Ground() || p.Room() != 0 {
			t.Errorf("Ground behind %q and 18: %v, room %d", way, p.Ground(), p.Room())
		}
	}
	for _, in := range []string{"a", "\xC3\xA9", "\xC3a", "\xFF", "\n", "\x7F", "\xC3\x7F", "\x1B7", "\x1B !\"0", "\x1B[m", "\x1B[:m", "\x1B]\x07", "\x1B]\x1B\\", "\x1BPq\x1B\\", "\x1BP:q\x1B\\", "\x1B_\x1B\\", "\x1BX\x1B\\", "\x1B[\xFF"} {
		p := parse.New()
		p.Feed([]byte(in))
		if !p.Ground() {
			t.Errorf("Ground behind %q", in)
		}
	}
}

func TestP1102Room(t *testing.T) {
	for _, c := range []struct {
		way, more string
		holds     int // at least, in the end
	}{
		{"\x1B]", "a", 1024}, {"\x1B[", ";", 16}, {"\x1B[", "9", 1}, {"\x1B[", " ", 2}, {"\x1B", " ", 2}, {"\x1BP", "1;", 16},
		{"\x1BPq", "#", 0}, {"\x1B_", "G", 0}, {"\x1BX", "a", 0}, {"", "a", 0}, {"", "\xC3", 0}, {"\x1B]\x1B", "\x1B", 0},
	} {
		p, q := parse.New(), parse.New()
		p.Feed([]byte(c.way))
		for range 5000 {
			p.Feed([]byte(c.more))
			if p.Room() > 1<<13 {
				t.Fatalf("Room behind %q and many %q: %d", c.way, c.more, p.Room())
			}
		}
		q.Feed([]byte(c.way + strings.Repeat(c.more, 5000)))
		if p.Room() < c.holds || p.Room() != q.Room() {
			t.Errorf("Room behind %q and many %q: %d, at once %d; holds %d", c.way, c.more, p.Room(), q.Room(), c.holds)
		}
	}
}

func TestP1102Join(t *testing.T) {
	d, a := func(s string) event { return data(parse.DcsData, s) }, func(s string) event { return data(parse.ApcData, s) }
	o := data(parse.Osc, "x")
	for _, c := range []struct{ l, want []event }{
		{nil, nil},
		{[]event{d("a")}, []event{d("a")}},
		{[]event{d("a"), d("b"), d("c")}, []event{d("abc")}},
		{[]event{a("a"), a(""), a("c")}, []event{a("ac")}},
		{[]event{d(""), d("b")}, []event{d("b")}},
		{[]event{d("a"), a("b"), d("c"), d("d")}, []event{d("a"), a("b"), d("cd")}},
		{[]event{d("a"), dcsEnd(1), dcsQ, d("b")}, []event{d("a"), dcsEnd(1), dcsQ, d("b")}},
		{[]event{o, o}, []event{o, o}},
		{all(print("aa"), []event{exec(7), exec(7), apcStart, apcStart}), all(print("aa"), []event{exec(7), exec(7), apcStart, apcStart})},
		{[]event{csi(0, "", 'm', 1), csi(0, "", 'm', 1)}, []event{csi(0, "", 'm', 1), csi(0, "", 'm', 1)}},
		{[]event{data(0, "a"), data(0, "b"), data(99, "c"), data(99, "d")}, []event{data(0, "a"), data(0, "b"), data(99, "c"), data(99, "d")}},
	} {
		if l := parse.Join(c.l...); !same(l, c.want) {
			t.Errorf("Join(%v): %v; want %v", c.l, l, c.want)
		}
	}
}

func TestP1102Same(t *testing.T) {
	whole := event{Kind: 4, R: 'r', B: 'b', Private: '?', Inter: "!", Params: []int{1, 2}, Data: []byte("ab")}
	twin := whole
	twin.Params, twin.Data = []int{1, 2}, []byte("ab")
	if !parse.Same(whole, twin) || !parse.Same(event{}, event{}) {
		t.Error("Same of twins")
	}
	if !parse.Same(event{Params: []int{}, Data: []byte{}}, event{}) || !parse.Same(event{}, event{Params: []int{}, Data: []byte{}}) {
		t.Error("Same of empty lists and none")
	}
	for i, change := range []func(e *event){
		func(e *event) { e.Kind++ }, func(e *event) { e.R++ }, func(e *event) { e.B++ }, func(e *event) { e.Private++ },
		func(e *event) { e.Inter = "" }, func(e *event) { e.Inter = "!!" }, func(e *event) { e.Params = nil },
		func(e *event) { e.Params = []int{1} }, func(e *event) { e.Params = []int{1, 3} }, func(e *event) { e.Params = []int{1, 2, 0} },
		func(e *event) { e.Data = nil }, func(e *event) { e.Data = []byte("a") }, func(e *event) { e.Data = []byte("ac") },
		func(e *event) { e.Data = []byte("ab\x00") },
	} {
		other := whole
		change(&other)
		if parse.Same(whole, other) || parse.Same(other, whole) {
			t.Errorf("Same of change %d", i)
		}
	}
}

// spoilt fills the lists of events, and their spare room, with something else.
func spoilt(l []event) {
	l = l[:cap(l)]
	for i := range l {
		for j := range l[i].Params[:cap(l[i].Params)] {
			l[i].Params[:cap(l[i].Params)][j] = -7
		}
		for j := range l[i].Data[:cap(l[i].Data)] {
			l[i].Data[:cap(l[i].Data)][j] = 0x55
		}
		l[i] = event{Kind: -7}
	}
}

// deep copies events, lists and all.
func deep(l []event) []event {
	l = slices.Clone(l)
	for i := range l {
		l[i].Params, l[i].Data = slices.Clone(l[i].Params), slices.Clone(l[i].Data)
	}
	return l
}

// TestP1102NothingShared holds P2: an answer is nobody else's, and what is handed in stays as it is and is not kept.
func TestP1102NothingShared(t *testing.T) {
	s := numbers(3)
	for range 300 {
		p := parse.New()
		var l []event
		var fed []byte
		for range 8 {
			b := slices.Grow(s.bytes(s.below(30)), 10)
			fed = append(fed, b...)
			before := bytes.Clone(b[:cap(b)])
			answer := p.Feed(b)
			if !bytes.Equal(b[:cap(b)], before) {
				t.Fatal("Feed changes what it is handed")
			}
			clear(b[:cap(b)])
			l = append(l, deep(answer)...)
			spoilt(answer)
		}
		want, _ := plain(fed)
		if !same(parse.Join(l...), want) {
			t.Fatalf("Feed shares: %q", fed)
		}
	}
}

func TestP1102NoListsShared(t *testing.T) {
	in := []byte("\x1B[1;2m\x1B[3;4;5m\x1B]ab\x07\x1B]cdefghijk\x07\x1BP1q#\x7F1\x7F2\x1B\\\x1B_G\x7Fa\x1B\\")
	l := parse.New().Feed(in)
	want := deep(l)
	for i := range l {
		spoilt(l[i : i+1 : i+1])
		for j := i + 1; j < len(l); j++ {
			if !parse.Same(l[j], want[j]) {
				t.Fatalf("event %d shares with %d", j, i)
			}
		}
	}
	l = slices.Grow(deep(want), 4)
	joined := parse.Join(l...)
	kept := deep(joined)
	spoilt(parse.Join(l...))
	if !same(l, want) {
		t.Error("Join shares with what it was handed")
	}
	spoilt(l)
	if !same(joined, kept) {
		t.Error("Join keeps what it was handed")
	}
}

func TestP1102ParsersByThemselves(t *testing.T) {
	p, q, zero := parse.New(), parse.New(), &parse.Parser{}
	p.Feed([]byte("\x1B[12"))
	q.Feed([]byte("\x1B]ab"))
	if l := p.Feed([]byte("3m")); !same(l, []event{csi(0, "", 'm', 123)}) {
		t.Errorf("Feed: %v", l)
	}
	if l := q.Feed([]byte("\x07")); !same(l, []event{data(parse.Osc, "ab")}) {
		t.Errorf("Feed: %v", l)
	}
	if l := zero.Feed([]byte("\xC3\xC3\xA9")); !same(l, print(string(rune(utf.Bad))+"\u00E9")) || !zero.Ground() {
		t.Errorf("Feed: %v", l)
	}
}
