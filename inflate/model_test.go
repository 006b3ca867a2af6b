package inflate_test

import (
	"math"
	"slices"
	"strings"
	"sync"

	"phosphor/api"
)

// Streams are texts of bits here, in the order in which they come.

// number is n bits of v, the lowest first.
func number(v, n int) string {
	b := make([]byte, n)
	for i := range b {
		b[i] = byte('0' + v>>i&1)
	}
	return string(b)
}

// bare is a text without its spaces: they say nothing.
func bare(text string) string { return strings.ReplaceAll(text, " ", "") }

// packed is a text as bytes.
func packed(text string) []byte {
	text = bare(text)
	b := make([]byte, (len(text)+7)/8)
	for i, c := range text {
		b[i/8] |= byte(c-'0') << (i % 8)
	}
	return b
}

// unpacked is the way back.
func unpacked(b []byte) string {
	var text strings.Builder
	for _, c := range b {
		text.WriteString(number(int(c), 8))
	}
	return text.String()
}

// codes are texts by symbol, "" without one.
type codes []string

// dealt deals out codes: each one begins where the one ahead of it ended, all together are 1 << 15 wide.
func dealt(lengths []byte) codes {
	l := make(codes, len(lengths))
	at := 0
	for n := 1; n <= 15; n++ {
		for symbol, length := range lengths {
			if int(length) == n {
				code := []byte(number(at>>(15-n), n))
				slices.Reverse(code)
				l[symbol] = string(code)
				at += 1 << (15 - n)
			}
		}
	}
	return l
}

// allowed is what chapter 4 says of lengths.
func allowed(lengths []byte) bool {
	sum, n := 0.0, 0
	for _, l := range lengths {
		if l > 0 {
			sum += math.Ldexp(1, -int(l))
			n++
		}
	}
	return sum == 1 || n == 0 || n == 1 && sum == 0.5
}

// tree is codes ready to be looked for.
type tree struct {
	symbols map[string]int
	fronts  map[string]bool // what codes begin with, themselves too
}

func grown(l codes) tree {
	t := tree{map[string]int{}, map[string]bool{}}
	for symbol, code := range l {
		if code != "" {
			t.symbols[code] = symbol
			for n := range len(code) + 1 {
				t.fronts[code[:n]] = true
			}
		}
	}
	return t
}

// model is a plain reading of P501; it panics with what is the matter.
type model struct {
	bits string
	at   int
	out  []byte
	most int
}

// says tells what the stream at b's front says: as far as it is certain, if b ends.
func says(b []byte, most int) (out []byte, used int, e api.Errno) {
	m := &model{bits: unpacked(b), most: most}
	defer func() {
		switch e, _ = recover().(api.Errno); e {
		case api.OK:
			out, used = m.out, (m.at+7)/8
		case api.ErrShort:
			out = m.out
		}
	}()
	for !m.block() {
	}
	return
}

func (m *model) bad(when bool) {
	if when {
		panic(api.ErrForm)
	}
}

func (m *model) number(n int) (v int) {
	if len(m.bits)-m.at < n {
		panic(api.ErrShort)
	}
	for i := range n {
		v |= int(m.bits[m.at+i]-'0') << i
	}
	m.at += n
	return v
}

func (m *model) symbol(t tree) int {
	for n := 0; ; n++ {
		text := m.bits[m.at : m.at+n]
		m.bad(!t.fronts[text])
		if symbol, ok := t.symbols[text]; ok {
			m.at += n
			return symbol
		}
		if m.at+n == len(m.bits) {
			panic(api.ErrShort)
		}
	}
}

func (m *model) lay(c byte) {
	if len(m.out) == m.most {
		panic(api.ErrLong)
	}
	m.out = append(m.out, c)
}

// block tells whether it was the last one.
func (m *model) block() bool {
	head := m.number(3)
	switch head >> 1 {
	case 0:
		m.at = (m.at + 7) / 8 * 8
		sizes := m.number(32)
		m.bad(sizes>>16 != 65535-sizes&65535)
		for range sizes & 65535 {
			m.lay(byte(m.number(8)))
		}
	case 1:
		m.symbols(fixedTrees())
	case 2:
		m.symbols(m.header())
	case 3:
		panic(api.ErrForm)
	}
	return head&1 == 1
}

// order is RFC 1951's, 3.2.7.
func order() []int { return []int{16, 17, 18, 0, 8, 7, 9, 6, 10, 5, 11, 4, 12, 3, 13, 2, 14, 1, 15} }

func fixedLiterals() []byte {
	return slices.Concat(slices.Repeat([]byte{8}, 144), slices.Repeat([]byte{9}, 112), slices.Repeat([]byte{7}, 24), slices.Repeat([]byte{8}, 8))
}

// fixedTrees takes long, and is asked often.
var fixedTrees = sync.OnceValues(func() (tree, tree) {
	return grown(dealt(fixedLiterals())), grown(dealt(slices.Repeat([]byte{5}, 32)))
})

func (m *model) header() (tree, tree) {
	counts := m.number(14)
	literals, distances := counts&31+257, counts>>5&31+1
	m.bad(literals > 286 || distances > 30)
	own := make([]byte, 19)
	for _, symbol := range order()[:counts>>10+4] {
		own[symbol] = byte(m.number(3))
	}
	m.bad(!allowed(own))
	t := grown(dealt(own))
	var l []byte
	for len(l) < literals+distances {
		switch symbol := m.symbol(t); symbol {
		case 16:
			m.bad(len(l) == 0) // the symbol alone says so
			n := m.number(2) + 3
			l = append(l, slices.Repeat(l[len(l)-1:], n)...)
		case 17:
			l = append(l, make([]byte, m.number(3)+3)...)
		case 18:
			l = append(l, make([]byte, m.number(7)+11)...)
		default:
			l = append(l, byte(symbol))
		}
	}
	m.bad(len(l) > literals+distances || !allowed(l[:literals]) || !allowed(l[literals:]) || l[256] == 0)
	return grown(dealt(l[:literals])), grown(dealt(l[literals:]))
}

// lengthOf is RFC 1951's rule of lengths, by its symbols: the least, and how many bits are added.
func lengthOf(symbol int) (int, int) {
	i := symbol - 257
	switch {
	case i < 4:
		return i + 3, 0
	case i == 28:
		return 258, 0
	}
	n := i/4 - 1
	return 3 + (4+i%4)<<n, n
}

// distanceOf is likewise its rule of distances.
func distanceOf(symbol int) (int, int) {
	if symbol < 2 {
		return symbol + 1, 0
	}
	n := symbol/2 - 1
	return 1 + (2+symbol%2)<<n, n
}

func (m *model) symbols(literals, distances tree) {
	for {
		symbol := m.symbol(literals)
		switch {
		case symbol == 256:
			return
		case symbol < 256:
			m.lay(byte(symbol))
			continue
		}
		m.bad(symbol > 285)
		length, n := lengthOf(symbol)
		length += m.number(n)
		symbol = m.symbol(distances)
		m.bad(symbol > 29)
		distance, n := distanceOf(symbol)
		distance += m.number(n)
		m.bad(distance > len(m.out) || distance > 32768)
		for range length {
			m.lay(m.out[len(m.out)-distance])
		}
	}
}
