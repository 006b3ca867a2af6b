package inflate_test

import (
	"slices"
	"strings"
)

// numbers is a short rule for numbers that look like any.
type numbers uint64

func (s *numbers) below(n int) int {
	*s = *s*6364136223846793005 + 1442695040888963407
	return int(uint32(*s>>32) % uint32(n))
}

func (s *numbers) bytes(n int) []byte {
	b := make([]byte, n)
	for i := range b {
		b[i] = byte(s.below(256))
	}
	return b
}

// full gives each of these symbols, two at least, a length of at most most, so that there are as many codes as there could be.
func (s *numbers) full(symbols []int, size, most int) []byte {
	l := []byte{1, 1}
	for len(l) < len(symbols) {
		if i := s.below(len(l)); int(l[i]) < most { // where one code was there are two
			l[i]++
			l = append(l, l[i])
		}
	}
	lengths := make([]byte, size)
	for i, symbol := range symbols {
		lengths[symbol] = l[i]
	}
	return lengths
}

// some is n of the numbers below size, and these ones too.
func (s *numbers) some(n, size int, ones ...int) []int {
	for len(ones) < n {
		if x := s.below(size); !slices.Contains(ones, x) {
			ones = append(ones, x)
		}
	}
	return ones
}

// distances is lengths of distances: full, or one alone, or none.
func (s *numbers) distances() []byte {
	n := 1 + s.below(30)
	l := make([]byte, n)
	switch x := s.below(8); {
	case x == 0:
	case x == 1 || n == 1:
		l[s.below(n)] = 1
	default:
		l = s.full(s.some(2+s.below(n-1), n), n, 15)
	}
	return l
}

// stored is a stored block; whatever is passed over ahead of its length is fill.
func stored(at int, last string, b []byte, fill string) string {
	text := last + "00"
	text += strings.Repeat(fill, -(at+3)&7) + number(len(b), 16) + number(^len(b), 16)
	return text + unpacked(b)
}

// said is one way to say lengths of codes: symbols with what is behind them.
type said struct {
	symbol, more, n int
}

// say finds any way, with repeats or without.
func (s *numbers) say(l []byte) (all []said) {
	for i := 0; i < len(l); {
		run := 1
		for i+run < len(l) && l[i+run] == l[i] {
			run++
		}
		switch x := s.below(4); {
		case x > 0 && l[i] == 0 && run >= 11:
			n := min(run, 138)
			all = append(all, said{18, n - 11, 7})
			i += n
		case x > 0 && l[i] == 0 && run >= 3:
			n := min(run, 10)
			all = append(all, said{17, n - 3, 3})
			i += n
		case x > 0 && i > 0 && l[i] == l[i-1] && run >= 3:
			n := min(run, 6)
			all = append(all, said{16, n - 3, 2})
			i += n
		default:
			all = append(all, said{int(l[i]), 0, 0})
			i++
		}
	}
	return all
}

// head is a dynamic block's up to its first symbol, said by a code of these lengths.
func head(last string, literals, distances int, own []byte, all []said) string {
	n := 19
	for n > 4 && own[order()[n-1]] == 0 {
		n--
	}
	var text strings.Builder
	text.WriteString(last + "01" + number(literals-257, 5) + number(distances-1, 5) + number(n-4, 4))
	for _, symbol := range order()[:n] {
		text.WriteString(number(int(own[symbol]), 3))
	}
	l := dealt(own)
	for _, x := range all {
		text.WriteString(l[x.symbol] + number(x.more, x.n))
	}
	return text.String()
}

// ownFor is lengths of a code that has all symbols of these sayings.
func (s *numbers) ownFor(all []said) []byte {
	var symbols []int
	for _, x := range all {
		if !slices.Contains(symbols, x.symbol) {
			symbols = append(symbols, x.symbol)
		}
	}
	return s.full(s.some(max(2, len(symbols)), 19, symbols...), 19, 7)
}

// header says lengths of literals and of distances in any way.
func (s *numbers) header(last string, literals, distances []byte) string {
	all := s.say(slices.Concat(literals, distances))
	return head(last, len(literals), len(distances), s.ownFor(all), all)
}

// plain says them one by one, each in four bits.
func plain(last string, literals, distances []byte) string {
	var all []said
	for _, n := range slices.Concat(literals, distances) {
		all = append(all, said{int(n), 0, 0})
	}
	return head(last, len(literals), len(distances), append(slices.Repeat([]byte{4}, 16), 0, 0, 0), all)
}

// body is n symbols of any sort and an end, behind made bytes: few of them are such as cannot be.
func (s *numbers) body(literals, distances codes, n, made int) (string, int) {
	var text strings.Builder
	for range n {
		symbol := s.below(len(literals))
		if symbol == 256 || literals[symbol] == "" || symbol > 285 && !s.seldom() {
			continue
		}
		if symbol < 256 {
			text.WriteString(literals[symbol])
			made++
			continue
		}
		code, far := s.distance(distances, made)
		if code == "" && !s.seldom() {
			continue
		}
		least, n := lengthOf(min(symbol, 285))
		more := s.below(1 << n)
		text.WriteString(literals[symbol] + number(more, n) + code + far)
		made += least + more
	}
	return text.String() + literals[256], made
}

// distance is a distance's code and the bits behind it; "", if there is none that reaches no farther than made.
func (s *numbers) distance(distances codes, made int) (string, string) {
	for range 100 {
		symbol := s.below(len(distances))
		if distances[symbol] == "" || symbol > 29 && !s.seldom() {
			continue
		}
		least, n := distanceOf(min(symbol, 29))
		more := s.below(1 << n)
		if least+more <= made || s.seldom() {
			return distances[symbol], number(more, n)
		}
	}
	return "", ""
}

func (s *numbers) seldom() bool { return s.below(2000) == 0 }

// stream is up to so many blocks, most of them right.
func (s *numbers) stream(blocks, symbols int) []byte {
	text, made := "", 0
	for i := range 1 + s.below(blocks) {
		last := "0"
		if i == blocks-1 || s.below(blocks) == 0 {
			last = "1"
		}
		var more string
		switch s.below(5) {
		case 0:
			b := s.bytes(s.below(symbols))
			text += stored(len(text), last, b, string("01"[s.below(2)]))
			made += len(b)
		case 1:
			more, made = s.body(dealt(fixedLiterals()), dealt(slices.Repeat([]byte{5}, 32)), s.below(symbols), made)
			text += last + "10" + more
		default:
			n := 257 + s.below(30)
			literals, distances := s.full(s.some(2+s.below(n-1), n, 256), n, 15), s.distances()
			text += s.header(last, literals, distances)
			more, made = s.body(dealt(literals), dealt(distances), s.below(symbols), made)
			text += more
		}
		if last == "1" {
			break
		}
	}
	return packed(text)
}
