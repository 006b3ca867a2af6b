package base64_test

import (
	"bytes"
	std "encoding/base64"
	"slices"
	"strings"
	"testing"

	"phosphor/api"
	"phosphor/base64"
)

// alphabet is P301's, in its order.
const alphabet = "ABCDEFGHIJKLMNOPQRSTUVWXYZabcdefghijklmnopqrstuvwxyz0123456789+/"

// numbers is a short rule for numbers that look like any.
type numbers uint64

func (s *numbers) next() uint32 {
	*s = *s*6364136223846793005 + 1442695040888963407
	return uint32(*s >> 32)
}

func (s *numbers) below(n int) int { return int(s.next() % uint32(n)) }

func (s *numbers) bytes(n int) []byte {
	b := make([]byte, n)
	for i := range b {
		b[i] = byte(s.next())
	}
	return b
}

// text is mostly such as may be: a fault in a hundred signs or so.
func (s *numbers) text(n int) string {
	b := []byte(base64.Encode(s.bytes(n)))
	if s.below(2) == 0 {
		b = bytes.TrimRight(b, "=")
	}
	if len(b) > 0 && s.below(4) == 0 {
		b[s.below(len(b))] = "=!A \n-_=/\x00\xFF"[s.below(11)]
	}
	if s.below(8) == 0 {
		b = append(b, "=A"[s.below(2)])
	}
	return string(b)
}

// allowed is P302's words on one sign: whether it may be behind those of text.
func allowed(text string, c byte) bool {
	i := len(text) % 4
	whole, four := text[:len(text)-i], text[len(text)-i:]
	if strings.Contains(whole, "=") {
		return false
	}
	if c != '=' {
		return strings.IndexByte(alphabet, c) >= 0 && !strings.Contains(four, "=")
	}
	return i >= 2 && clean(strings.TrimRight(four, "="))
}

// clean tells whether the bits beyond the last whole byte are 0.
func clean(four string) bool {
	if four == "" {
		return true
	}
	last := strings.IndexByte(alphabet, four[len(four)-1])
	return last%(1<<(len(four)*6%8)) == 0
}

// said tells the bytes of some fours, or of the signs that are left.
func said(text string) []byte {
	b, err := std.RawStdEncoding.DecodeString(strings.TrimRight(text, "="))
	if err != nil {
		panic(err)
	}
	return b
}

// plain is a decoder that keeps all its text, and asks P302's words of it.
type plain struct {
	text   string
	broken bool
}

func (p *plain) write(b []byte) ([]byte, api.Errno) {
	before := len(p.text) / 4 * 4
	for _, c := range b {
		if p.broken || !allowed(p.text, c) {
			p.broken = true
			break
		}
		p.text += string([]byte{c})
	}
	if p.broken {
		return nil, api.ErrForm
	}
	return said(p.text[before : len(p.text)/4*4]), api.OK
}

func (p *plain) end() ([]byte, api.Errno) {
	left := p.text[len(p.text)/4*4:]
	p.text = ""
	if p.broken || len(left) == 1 || strings.Contains(left, "=") || !clean(left) {
		p.broken = true
		return nil, api.ErrForm
	}
	return said(left), api.OK
}

func (p *plain) held() int {
	if p.broken {
		return 0
	}
	return len(p.text) % 4
}

func (p *plain) decode(text string) ([]byte, api.Errno) {
	b, e := p.write([]byte(text))
	if e != api.OK {
		return nil, e
	}
	rest, e := p.end()
	if e != api.OK {
		return nil, e
	}
	return append(b, rest...), e
}

// tells fails unless the answer is just this; beside an error there must be nothing.
func tells(t *testing.T, what string, b []byte, e api.Errno, want []byte, wantErr api.Errno) {
	t.Helper()
	if e != wantErr || !bytes.Equal(b, want) {
		t.Fatalf("%q: %q, %v; want %q, %v", what, b, e, want, wantErr)
	}
}

// holds fails unless so many signs wait.
func holds(t *testing.T, what string, d *base64.Decoder, want int) {
	t.Helper()
	if n := d.Held(); n != want {
		t.Fatalf("%q: Held %d; want %d", what, n, want)
	}
}

// write and end do one call, and fail unless it tells just this.
func write(t *testing.T, d *base64.Decoder, text, want string, wantErr api.Errno) {
	t.Helper()
	b, e := d.Write([]byte(text))
	tells(t, "Write of "+text, b, e, []byte(want), wantErr)
}

func end(t *testing.T, d *base64.Decoder, want string, wantErr api.Errno) {
	t.Helper()
	b, e := d.End()
	tells(t, "End", b, e, []byte(want), wantErr)
}

// pairs are RFC 4648's examples, and some more.
var pairs = []struct{ bytes, text string }{
	{"", ""},
	{"f", "Zg=="},
	{"fo", "Zm8="},
	{"foo", "Zm9v"},
	{"foob", "Zm9vYg=="},
	{"fooba", "Zm9vYmE="},
	{"foobar", "Zm9vYmFy"},
	{"\x00", "AA=="},
	{"\x00\x00", "AAA="},
	{"\x00\x00\x00", "AAAA"},
	{"\xFF", "/w=="},
	{"\xFF\xFF", "//8="},
	{"\xFF\xFF\xFF", "////"},
	{"\xFB\xEF\xBE", "++++"},
	{"\xFF\xFE", "//4="},
	{"\x80\x00\x01", "gAAB"},
}

func TestP301Encode(t *testing.T) {
	for _, c := range pairs {
		if s := base64.Encode([]byte(c.bytes)); string(s) != c.text {
			t.Errorf("Encode(%q): %s; want %s", c.bytes, s, c.text)
		}
	}
	if s := base64.Encode(nil); len(s) != 0 {
		t.Errorf("Encode(nil): %s", s)
	}
}

func TestP301TheAlphabet(t *testing.T) {
	var all []byte // the six bits 0 to 63, one behind the other
	for i := 0; i < 64; i += 4 {
		all = append(all, byte(i<<2|(i+1)>>4), byte((i+1)<<4|(i+2)>>2), byte((i+2)<<6|(i+3)))
	}
	if s := base64.Encode(all); string(s) != alphabet {
		t.Errorf("Encode: %s", s)
	}
	b, e := base64.Decode([]byte(alphabet))
	tells(t, "Decode", b, e, all, api.OK)
}

func TestP301AnyBytes(t *testing.T) {
	s := numbers(1)
	for n := range 300 {
		b := s.bytes(n)
		text := base64.Encode(b)
		if want := std.StdEncoding.EncodeToString(b); string(text) != want {
			t.Fatalf("Encode(%x): %s; want %s", b, text, want)
		}
		for _, text := range [][]byte{text, bytes.TrimRight(text, "=")} {
			back, e := base64.Decode(text)
			tells(t, "Decode of "+string(text), back, e, b, api.OK)
		}
	}
}

func TestP301EachByteAndTwo(t *testing.T) {
	for i := range 1 << 16 {
		for _, b := range [][]byte{{byte(i)}, {byte(i >> 8), byte(i)}} {
			text := base64.Encode(b)
			if want := std.StdEncoding.EncodeToString(b); string(text) != want {
				t.Fatalf("Encode(%x): %s; want %s", b, text, want)
			}
			back, e := base64.Decode(text)
			tells(t, "Decode of "+string(text), back, e, b, api.OK)
		}
	}
}

func TestP301FilledUpOrNot(t *testing.T) {
	for _, c := range pairs {
		for _, text := range []string{c.text, strings.TrimRight(c.text, "=")} {
			b, e := base64.Decode([]byte(text))
			tells(t, "Decode of "+text, b, e, []byte(c.bytes), api.OK)
		}
	}
}

func TestP301BitsBeyond(t *testing.T) {
	for i := range 64 {
		c := alphabet[i : i+1]
		for _, k := range []struct {
			ahead, filled string
			beyond, by    int
		}{{"A", "==", 16, 4}, {"AA", "=", 4, 2}} {
			want, wantErr := make([]byte, len(k.ahead)), api.OK
			want[len(want)-1] = byte(i >> k.by)
			if i%k.beyond != 0 {
				want, wantErr = nil, api.ErrForm
			}
			for _, text := range []string{k.ahead + c, k.ahead + c + k.filled} {
				b, e := base64.Decode([]byte(text))
				tells(t, "Decode of "+text, b, e, want, wantErr)
			}
		}
	}
}

func TestP302EachSign(t *testing.T) {
	for c := range 256 { // at each place of four
		for i := range 4 {
			text := []byte("AAAA")
			text[i] = byte(c)
			var p plain
			want, wantErr := p.decode(string(text))
			b, e := base64.Decode(text)
			tells(t, "Decode of "+string(text), b, e, want, wantErr)
			if good := strings.IndexByte(alphabet, byte(c)) >= 0 || c == '=' && i == 3; good != (e == api.OK) {
				t.Errorf("%q: %v", text, e)
			}
		}
	}
}

func TestP302Refused(t *testing.T) {
	for _, text := range []string{
		"A", "AAAAA", "=", "==", "===", "====", "A=", "A==", "A===", "=A", "=AAA", "A=AA",
		"AA=", "AA=A", "AA=A=", "AA=AA", "AA===", "AAA==", "AAA=A", "AA==A", "AA==AAAA", "AA==AA==", "AA====",
		"AB", "AB==", "AP==", "AI==", "AAB", "AAB=", "AAC=", "AAD=", "AAAA=", "AAAA==", "AAAA====",
		"AA AA", "AAAA\n", "\nAAAA", "AA-A", "AA_A", "AA.A", "AA,A", "AA@A", "AA[A", "AA`A", "AA{A", "AA:A", "AA*A",
		"AAA\x00", "\x00", "\x80", "\xC1AAA", "\xFF", "AAA\xBD", "ÀAAA",
	} {
		b, e := base64.Decode([]byte(text))
		tells(t, "Decode of "+text, b, e, nil, api.ErrForm)
	}
}

func TestP302ManyFours(t *testing.T) {
	d := base64.NewDecoder()
	write(t, d, "Zm9vYmFyZ", "foobar", api.OK)
	holds(t, "behind nine", d, 1)
	write(t, d, "m9vYmFyZm8", "foobar", api.OK)
	holds(t, "behind nineteen", d, 3)
	end(t, d, "fo", api.OK)
	holds(t, "behind End", d, 0)
}

func TestP302SignBySign(t *testing.T) {
	d := base64.NewDecoder()
	for i, want := range []string{"", "", "", "foo", "", "", "", "b"} {
		write(t, d, "Zm9vYg=="[i:i+1], want, api.OK)
		holds(t, "Zm9vYg=="[:i+1], d, (i+1)%4)
	}
	write(t, d, "", "", api.OK)
	end(t, d, "", api.OK)
	for i := range 7 {
		d.Write([]byte("Zm9vYmE"[i : i+1]))
	}
	end(t, d, "ba", api.OK)
}

func TestP302AtWhichSign(t *testing.T) {
	for _, c := range []struct{ good, bad string }{
		{"", "="}, {"A", "="}, {"AAAA", "="}, {"AAAAA", "="}, // the first or second of four
		{"AA=", "A"}, {"AA=", "/"}, {"AA=", "!"}, // another sign behind it
		{"AB", "="}, {"AP", "="}, {"AAB", "="}, {"AAC", "="}, {"AAAAAB", "="}, // bits beyond
		{"AA==", "="}, {"AA==", "A"}, {"AAA=", "="}, {"AAA=", "A"}, {"AAAAAAA=", "\n"}, // behind a whole four with =
		{"", " "}, {"A", "\x00"}, {"AA", "-"}, {"AAA", "_"}, {"AAAA", "\xFF"}, // none of the alphabet
	} {
		d := base64.NewDecoder()
		if _, e := d.Write([]byte(c.good)); e != api.OK {
			t.Errorf("%q: %v", c.good, e)
		}
		holds(t, c.good, d, len(c.good)%4)
		write(t, d, c.bad, "", api.ErrForm)
		holds(t, c.good+c.bad, d, 0)
		write(t, base64.NewDecoder(), c.good+c.bad, "", api.ErrForm)
		write(t, base64.NewDecoder(), c.good+c.bad+"AAAA", "", api.ErrForm)
	}
}

func TestP302NothingBesideAnError(t *testing.T) {
	d := base64.NewDecoder()
	write(t, d, "Zm9v", "foo", api.OK)
	write(t, d, "Zm9vZm9vZ!", "", api.ErrForm) // whole fours ahead of the fault, too
	b, e := base64.Decode([]byte("Zm9vZ"))     // End's fault
	tells(t, "Decode", b, e, nil, api.ErrForm)
}

func TestP302ErrFormStays(t *testing.T) {
	d := base64.NewDecoder()
	write(t, d, "Zm9v!", "", api.ErrForm)
	for range 3 {
		holds(t, "behind ErrForm", d, 0)
		write(t, d, "Zm9v", "", api.ErrForm)
		write(t, d, "Z", "", api.ErrForm)
		write(t, d, "", "", api.ErrForm)
		holds(t, "behind ErrForm", d, 0)
		end(t, d, "", api.ErrForm)
	}
	d.Reset()
	write(t, d, "Zm9vYg", "foo", api.OK)
	holds(t, "behind Reset", d, 2)
	end(t, d, "b", api.OK)
}

func TestP302EndRefused(t *testing.T) {
	for _, text := range []string{"A", "AB", "AP", "AI", "AAB", "AAC", "AAD", "AA=", "AAAAA", "AAAAAB", "AAAAAAC", "AAAAAA="} {
		d := base64.NewDecoder()
		if _, e := d.Write([]byte(text)); e != api.OK {
			t.Fatalf("Write of %s: %v", text, e)
		}
		holds(t, text, d, len(text)%4)
		end(t, d, "", api.ErrForm)
		holds(t, text+", and End", d, 0) // 0 behind ErrForm
		write(t, d, "AAAA", "", api.ErrForm)
		write(t, d, "", "", api.ErrForm)
		end(t, d, "", api.ErrForm)
		d.Reset()
		write(t, d, "Zm9v", "foo", api.OK)
		end(t, d, "", api.OK)
	}
}

func TestP302AsNewBehindEnd(t *testing.T) {
	for _, c := range []struct{ text, front, rest string }{
		{"", "", ""}, {"Zg==", "f", ""}, {"Zm8=", "fo", ""}, {"Zm9v", "foo", ""},
		{"Zg", "", "f"}, {"Zm8", "", "fo"}, {"Zm9vYg", "foo", "b"}, {"Zm9vYmE", "foo", "ba"},
	} {
		d := base64.NewDecoder()
		for range 3 { // behind a four with =, too, it may be handed the next text
			write(t, d, c.text, c.front, api.OK)
			end(t, d, c.rest, api.OK)
			holds(t, "behind End", d, 0)
			end(t, d, "", api.OK)
			write(t, d, "AAAA", "\x00\x00\x00", api.OK)
		}
	}
}

func TestP302Reset(t *testing.T) {
	for _, text := range []string{"", "Z", "Zm", "Zh", "Zm9", "Zm9v", "Zg=", "Zg==", "Zm8=", "!", "Zm9v="} {
		d := base64.NewDecoder()
		d.Write([]byte(text))
		d.Reset()
		holds(t, text+", and Reset", d, 0)
		end(t, d, "", api.OK)
		d.Write([]byte(text))
		d.Reset()
		write(t, d, "Zm9vYm", "foo", api.OK)
		holds(t, text+", Reset, and six", d, 2)
	}
}

func TestP302NothingYet(t *testing.T) {
	d := base64.NewDecoder()
	holds(t, "new", d, 0)
	write(t, d, "", "", api.OK)
	if b, e := d.Write(nil); len(b) != 0 || e != api.OK {
		t.Errorf("Write(nil): %q, %v", b, e)
	}
	end(t, d, "", api.OK)
	for _, b := range [][]byte{nil, {}} {
		x, e := base64.Decode(b)
		tells(t, "Decode of nothing", x, e, nil, api.OK)
	}
}

// texts tells all of up to n signs of a few, one of each sort.
func texts(n int, each func(text string)) {
	const some = "AQE/=!" // Q has four bits beyond that are not 0 of two signs only, E of either
	var grow func(text string)
	grow = func(text string) {
		each(text)
		for i := 0; len(text) < n && i < len(some); i++ {
			grow(text + some[i:i+1])
		}
	}
	grow("")
}

func TestP302AllShortTexts(t *testing.T) {
	texts(7, func(text string) {
		var p plain
		want, wantErr := p.decode(text)
		b, e := base64.Decode([]byte(text))
		tells(t, "Decode of "+text, b, e, want, wantErr)
		d := base64.NewDecoder()
		p = plain{}
		for i := range len(text) {
			want, wantErr := p.write([]byte(text[i : i+1]))
			write(t, d, text[i:i+1], string(want), wantErr)
			holds(t, text[:i+1], d, p.held())
		}
		want, wantErr = p.end()
		end(t, d, string(want), wantErr)
	})
}

func TestP302AnyPieces(t *testing.T) { // T3
	s := numbers(2)
	for range 3000 {
		text := s.text(s.below(60))
		want, wantErr := base64.Decode([]byte(text))
		d := base64.NewDecoder()
		var all []byte
		e := api.OK
		for rest := text; rest != "" && e == api.OK; {
			n := min(len(rest), s.below(9))
			var b []byte
			b, e = d.Write([]byte(rest[:n]))
			all = append(all, b...)
			rest = rest[n:]
		}
		last, endErr := d.End()
		if e == api.OK {
			e = endErr
		}
		all = append(all, last...)
		if e != wantErr || e == api.OK && !bytes.Equal(all, want) {
			t.Fatalf("%q in pieces: %q, %v; want %q, %v", text, all, e, want, wantErr)
		}
	}
}

func TestP302AnyCalls(t *testing.T) {
	s := numbers(3)
	for range 2000 {
		d := base64.NewDecoder()
		var p plain
		for range 30 {
			switch s.below(10) {
			case 0:
				d.Reset()
				p = plain{}
			case 1:
				want, wantErr := p.end()
				end(t, d, string(want), wantErr)
			default:
				text := s.text(s.below(12))
				text = text[:s.below(len(text)+1)]
				want, wantErr := p.write([]byte(text))
				write(t, d, text, string(want), wantErr)
			}
			holds(t, p.text, d, p.held())
		}
	}
}

func TestP302LongText(t *testing.T) {
	s := numbers(4)
	b := s.bytes(1<<20 + 1)
	text := base64.Encode(b)
	back, e := base64.Decode(text)
	if e != api.OK || !bytes.Equal(back, b) {
		t.Errorf("a long text: %d bytes, %v", len(back), e)
	}
	text[1<<19] = '!'
	if back, e := base64.Decode(text); len(back) != 0 || e != api.ErrForm {
		t.Errorf("a long text with a fault: %d bytes, %v", len(back), e)
	}
}

func TestP302KeepsNothing(t *testing.T) { // P2
	room := []byte("Zm9vYmFyZm9v####")
	before := slices.Clone(room)
	b := room[:6]
	d := base64.NewDecoder()
	first, _ := d.Write(b)
	copy(b, "!!!!!!") // what was handed in is not kept
	second, e := d.Write([]byte("FyYg"))
	tells(t, "the next piece", second, e, []byte("bar"), api.OK)
	clear(first[:cap(first)]) // nor is an answer's room the decoder's
	last, e := d.End()
	tells(t, "the end", last, e, []byte("b"), api.OK)
	tells(t, "the piece ahead", second, api.OK, []byte("bar"), api.OK)
	copy(room, before)
	base64.Decode(room[:9])
	base64.Encode(room[:7])
	base64.NewDecoder().Write(room[:11])
	if !bytes.Equal(room, before) {
		t.Errorf("what was handed in is changed: %q", room)
	}
}

func TestP302AnswersAreNewMemory(t *testing.T) { // P2
	text := []byte("Zm9vYmFy")
	for range 2 { // the same again, whatever was done to the answers
		b, e := base64.Decode(text)
		tells(t, "Decode", b, e, []byte("foobar"), api.OK)
		clear(b[:cap(b)])
		s := base64.Encode([]byte("foob"))
		if string(s) != "Zm9vYg==" {
			t.Errorf("Encode: %s", s)
		}
		clear(s[:cap(s)])
		if string(text) != "Zm9vYmFy" {
			t.Errorf("an answer is what was handed in: %s", text)
		}
	}
}

func TestP302OwnObjects(t *testing.T) { // P7
	d, other := base64.NewDecoder(), base64.NewDecoder()
	write(t, d, "Zm9", "", api.OK)
	holds(t, "the other one", other, 0)
	write(t, d, "!", "", api.ErrForm)
	write(t, other, "Zm9v", "foo", api.OK)
}
