package parse

import (
	"bytes"
	"slices"

	"phosphor/api"
)

// States.
const (
	ground = iota
	escape
	csi
	dcsHead
	osc
	dcs // its data
	apc
	ignored
	ends // in a string, behind 1B
)

// Bytes that mean something in every state, or nearly.
const (
	bell       = 0x07
	cancel     = 0x18
	substitute = 0x1A
	escapeByte = 0x1B
	del        = 0x7F
)

// to goes to a state with nothing kept.
func (p *Parser) to(state int) {
	p.state, p.within = state, state
	p.head, p.osc = head{}, nil
}

// data tells the bytes at b's beginning that are data of a string, and how many they are: at once, for images are long.
func (p *Parser) data(b []byte, tell func(Event)) int {
	kind := DcsData
	switch p.state {
	case dcs:
	case apc:
		kind = ApcData
	default:
		return 0
	}
	n := slices.IndexFunc(b, isNoData)
	if n < 0 {
		n = len(b)
	}
	if n > 0 {
		tell(Event{Kind: kind, Data: bytes.Clone(b[:n])})
	}
	return n
}

func isNoData(b byte) bool {
	return b == cancel || b == substitute || b == escapeByte || b == del
}

// put does what every state does of a byte, and hands on the others.
func (p *Parser) put(b byte, tell func(Event)) {
	switch b {
	case cancel, substitute:
		p.breakOff(tell)
		p.to(ground)
		tell(Event{Kind: Exec, B: b})
	case escapeByte:
		p.escaped(tell)
	default:
		p.step(b, tell)
	}
}

// escaped does 1B.
func (p *Parser) escaped(tell func(Event)) {
	switch p.state {
	case osc, dcs, apc, ignored:
		p.state = ends // what was kept stays: the string may be whole
	default:
		p.breakOff(tell)
		p.to(escape)
	}
}

// breakOff ends what is open without its own end.
func (p *Parser) breakOff(tell func(Event)) {
	switch p.within {
	case ground:
		p.print(p.chars.End(), tell)
	case dcs:
		tell(Event{Kind: DcsEnd})
	case apc:
		tell(Event{Kind: ApcEnd})
	}
}

// end ends a string by its own end.
func (p *Parser) end(tell func(Event)) {
	switch p.within {
	case osc:
		tell(Event{Kind: Osc, Data: p.osc})
	case dcs:
		tell(Event{Kind: DcsEnd, B: 1})
	case apc:
		tell(Event{Kind: ApcEnd, B: 1})
	}
	p.to(ground)
}

// step does a byte in its state. Of data and ignored strings only what is passed over comes here.
func (p *Parser) step(b byte, tell func(Event)) {
	switch p.state {
	case ends:
		if b == '\\' {
			p.end(tell)
			return
		}
		p.breakOff(tell)
		p.to(escape)
		fallthrough // 1B was the begin of something else, and this byte goes on with it
	case escape, csi, dcsHead:
		if b < 0x80 {
			p.sequence(b, tell)
			return
		}
		p.to(ground)
		fallthrough // a byte of text is not lost with a sequence that it breaks off
	case ground:
		p.text(b, tell)
	case osc:
		p.keep(b, tell)
	}
}

// text does a byte in ground.
func (p *Parser) text(b byte, tell func(Event)) {
	switch {
	case b < 0x20:
		p.print(p.chars.End(), tell)
		tell(Event{Kind: Exec, B: b})
	case b == del:
		p.print(p.chars.End(), tell)
	default:
		p.print(p.chars.Put(b), tell)
	}
}

func (p *Parser) print(l []rune, tell func(Event)) {
	for _, r := range l {
		tell(Event{Kind: Print, R: r})
	}
}

// keep does a byte in an OSC.
func (p *Parser) keep(b byte, tell func(Event)) {
	switch {
	case b == bell:
		p.end(tell)
	case b < 0x20, b == del, len(p.osc) == api.MaxOsc:
	default:
		p.osc = append(p.osc, b)
	}
}

// sequence does a byte below 80 (hexadecimal) in escape, CSI, DCS head.
func (p *Parser) sequence(b byte, tell func(Event)) {
	switch {
	case b < 0x20:
		if p.state != dcsHead {
			tell(Event{Kind: Exec, B: b})
		}
	case b == del:
	case p.state == escape:
		p.inEscape(b, tell)
	case b < 0x40:
		p.head.put(b)
	default:
		p.final(b, tell)
	}
}

// inEscape does a byte from 20 to 7E (hexadecimal) in escape.
func (p *Parser) inEscape(b byte, tell func(Event)) {
	if b < 0x30 {
		p.head.keep(b)
		return
	}
	if len(p.head.inter) > 0 || !p.open(b, tell) {
		p.dispatch(Esc, b, tell)
		p.to(ground)
	}
}

// open goes to where b leads behind 1B, and tells whether it leads anywhere.
func (p *Parser) open(b byte, tell func(Event)) bool {
	switch b {
	case 'P':
		p.to(dcsHead)
	case '[':
		p.to(csi)
	case ']':
		p.to(osc)
	case '_':
		p.to(apc)
		tell(Event{Kind: ApcStart})
	case 'X', '^':
		p.to(ignored)
	default:
		return false
	}
	return true
}

// final does the last byte of a CSI, or of a DCS head.
func (p *Parser) final(b byte, tell func(Event)) {
	switch {
	case p.state == csi:
		p.dispatch(Csi, b, tell)
		p.to(ground)
	case p.head.wrong:
		p.to(ignored)
	default:
		p.dispatch(DcsStart, b, tell)
		p.to(dcs)
	}
}

// dispatch tells what was kept, if it is not wrong. It is given away: each sequence has its own.
func (p *Parser) dispatch(kind int, b byte, tell func(Event)) {
	h := p.head
	if !h.wrong {
		tell(Event{Kind: kind, B: b, Private: h.private, Inter: string(h.inter), Params: h.params})
	}
}
