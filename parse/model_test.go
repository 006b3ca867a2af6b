package parse_test

import (
	"bytes"
	"regexp"
	"slices"
	"strings"
	"testing"

	"phosphor/api"
	"phosphor/parse"
	"phosphor/utf"
)

// model reads bytes that are all there, sequence by sequence, with no states: it looks ahead for where each ends.
type model struct {
	b     []byte
	at    int
	out   []parse.Event
	waits bool // it ended in the midst of something
}

// plain tells what all of b is, data that follow one another as one event, and whether nothing is under way behind it.
func plain(b []byte) ([]parse.Event, bool) {
	m := &model{b: b}
	for m.at < len(b) {
		c := b[m.at]
		switch {
		case c == 0x1B:
			m.at++
			m.sequence()
		case c < 0x20:
			m.at++
			m.tell(parse.Event{Kind: parse.Exec, B: c})
		case c == 0x7F:
			m.at++
		default:
			m.text()
		}
	}
	return m.out, !m.waits
}

func (m *model) tell(e parse.Event) { m.out = append(m.out, e) }

// upTo takes the bytes ahead of the first one that stops tells; false, if there is none.
func (m *model) upTo(stops func(c byte) bool) ([]byte, bool) {
	from := m.at
	for m.at < len(m.b) && !stops(m.b[m.at]) {
		m.at++
	}
	m.waits = m.at == len(m.b)
	return m.b[from:m.at], !m.waits
}

// text reads what stands between two controls.
func (m *model) text() {
	b, ended := m.upTo(func(c byte) bool { return c < 0x20 || c == 0x7F })
	l := utf.All(b)
	if !ended {
		d := utf.New()
		l = nil
		for _, c := range b {
			l = append(l, d.Put(c)...)
		}
		m.waits = d.Waits()
	}
	for _, r := range l {
		m.tell(parse.Event{Kind: parse.Print, R: r})
	}
}

func within(c byte, from, to byte) bool { return from <= c && c <= to }

// breaks tells whether a byte ends a sequence that it is no part of.
func breaks(c byte) bool { return c == 0x18 || c == 0x1A || c == 0x1B || c >= 0x80 }

// head takes what stands ahead of a final byte (from first on to 7E) and that byte; controls in it are told, if they are to be.
func (m *model) head(first byte, controls bool) (string, byte) {
	from := len(m.out)
	b, ended := m.upTo(func(c byte) bool { return breaks(c) || within(c, first, 0x7E) })
	kept := ""
	for _, c := range b {
		if c < 0x20 {
			m.tell(parse.Event{Kind: parse.Exec, B: c})
		} else if c != 0x7F {
			kept += string(rune(c))
		}
	}
	if !controls {
		m.out = m.out[:from]
	}
	if !ended || breaks(m.b[m.at]) {
		return "", 0
	}
	m.at++
	return kept, m.b[m.at-1]
}

// sequence reads what stands behind 1B.
func (m *model) sequence() {
	kept, final := m.head(0x30, true)
	if final == 0 {
		return
	}
	if kept == "" {
		switch final {
		case '[':
			m.csi()
			return
		case 'P':
			m.dcs()
			return
		case ']':
			m.str(0, 0)
			return
		case '_':
			m.tell(parse.Event{Kind: parse.ApcStart})
			m.str(parse.ApcData, parse.ApcEnd)
			return
		case 'X', '^':
			m.str(1, 0)
			return
		}
	}
	if len(kept) <= 2 {
		m.tell(parse.Event{Kind: parse.Esc, Inter: kept, B: final})
	}
}

// right is what may stand ahead of the final byte of a CSI or of a DCS head.
var right = regexp.MustCompile(`^([<-?]?)([0-9;]*)([ -/]?[ -/]?)$`)

// described lays what a head says into an event; false, if it is wrong.
func described(e *parse.Event, kept string) bool {
	parts := right.FindStringSubmatch(kept)
	if parts == nil {
		return false
	}
	if parts[1] != "" {
		e.Private = parts[1][0]
	}
	e.Inter = parts[3]
	if parts[2] == "" {
		return true
	}
	for i, digits := range strings.Split(parts[2], ";") {
		if i < api.MaxParams {
			e.Params = append(e.Params, number(digits))
		}
	}
	return true
}

// number holds digits against MaxParam by their length first.
func number(digits string) int {
	digits = strings.TrimLeft(digits, "0")
	if len(digits) > 5 {
		return 65535
	}
	n := 0
	for _, d := range digits {
		n = n*10 + int(d-'0')
	}
	return min(n, 65535)
}

func (m *model) csi() {
	kept, final := m.head(0x40, true)
	e := parse.Event{Kind: parse.Csi, B: final}
	if final != 0 && described(&e, kept) {
		m.tell(e)
	}
}

func (m *model) dcs() {
	kept, final := m.head(0x40, false)
	e := parse.Event{Kind: parse.DcsStart, B: final}
	switch {
	case final == 0:
	case described(&e, kept):
		m.tell(e)
		m.str(parse.DcsData, parse.DcsEnd)
	default:
		m.str(1, 0)
	}
}

// str reads a string: an OSC (data 0), one that is ignored (end 0), or data with an end.
func (m *model) str(data, end int) {
	b, ended := m.upTo(func(c byte) bool {
		return c == 0x18 || c == 0x1A || c == 0x1B || data == 0 && c == 7
	})
	b = bytes.ReplaceAll(b, []byte{0x7F}, nil)
	if end != 0 && len(b) > 0 {
		m.tell(parse.Event{Kind: data, Data: b})
	}
	if !ended {
		return
	}
	how := byte(0)
	switch {
	case m.b[m.at] == 0x1B && m.at+1 == len(m.b):
		m.at++
		m.waits = true
		return
	case m.b[m.at] == 0x1B && m.b[m.at+1] == '\\':
		m.at += 2
		how = 1
	case m.b[m.at] == 7:
		m.at++
		how = 1
	}
	if end != 0 {
		m.tell(parse.Event{Kind: end, B: how})
	} else if data == 0 && how == 1 {
		m.tell(parse.Event{Kind: parse.Osc, Data: titled(b)})
	}
}

// titled is what an OSC keeps.
func titled(b []byte) []byte {
	var out []byte
	for _, c := range b {
		if c >= 0x20 && len(out) < 1024 {
			out = append(out, c)
		}
	}
	return out
}

// same holds lists of events against each other, field by field.
func same(a, b []parse.Event) bool {
	return slices.EqualFunc(a, b, func(x, y parse.Event) bool {
		return x.Kind == y.Kind && x.R == y.R && x.B == y.B && x.Private == y.Private && x.Inter == y.Inter &&
			slices.Equal(x.Params, y.Params) && bytes.Equal(x.Data, y.Data)
	})
}

// fed hands b over in pieces, and fails unless all is as the model says behind each of them.
func fed(t *testing.T, pieces ...[]byte) {
	t.Helper()
	p := parse.New()
	var b []byte
	var l []parse.Event
	for _, piece := range pieces {
		b = append(b, piece...)
		l = append(l, p.Feed(piece)...)
		want, ground := plain(b)
		if got := parse.Join(l...); !same(got, want) || p.Ground() != ground || p.Room() > 1<<13 {
			t.Fatalf("%q (last piece %q): %v, ground %v, room %d; want %v, %v", b, piece, got, p.Ground(), p.Room(), want, ground)
		}
	}
}

// bytewise cuts b into single bytes.
func bytewise(b []byte) [][]byte {
	var out [][]byte
	for i := range b {
		out = append(out, b[i:i+1])
	}
	return out
}

// check feeds b at once, byte by byte, and cut into two at each place.
func check(t *testing.T, b []byte) {
	t.Helper()
	fed(t, b)
	fed(t, bytewise(b)...)
	for i := range b {
		fed(t, b[:i], b[i:])
	}
}
