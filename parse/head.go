package parse

import "phosphor/api"

const maxInter = 2

// head is what came of a sequence ahead of its last byte.
type head struct {
	begun   bool // any byte came that counts
	wrong   bool // nothing is told of it
	private byte
	inter   []byte
	params  []int
	past    bool // the parameter that goes on is one too many
}

// put takes a byte from 20 to 3F (hexadecimal) of a CSI, or of a DCS head.
func (h *head) put(b byte) {
	first := !h.begun
	h.begun = true
	switch {
	case b < 0x30:
		h.keep(b)
	case b >= 0x3C && first:
		h.private = b
	case b >= 0x3C, b == ':', len(h.inter) > 0:
		h.wrong = true
	case b == ';':
		h.next()
	default:
		h.digit(int(b - '0'))
	}
}

// keep takes a byte from 20 to 2F (hexadecimal).
func (h *head) keep(b byte) {
	if len(h.inter) == maxInter {
		h.wrong = true
		return
	}
	h.inter = append(h.inter, b)
}

// next begins the parameter behind a semicolon.
func (h *head) next() {
	h.one()
	if len(h.params) == api.MaxParams {
		h.past = true
		return
	}
	h.params = append(h.params, 0)
}

// digit lays a digit behind the last parameter's.
func (h *head) digit(d int) {
	h.one()
	if h.past {
		return
	}
	last := &h.params[len(h.params)-1]
	*last = min(*last*10+d, api.MaxParam)
}

// one sees to it that there is a parameter: none is there till a digit or a semicolon comes.
func (h *head) one() {
	if len(h.params) == 0 {
		h.params = append(h.params, 0)
	}
}
