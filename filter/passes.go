package filter

// Pass is one of Adam7's.
type Pass struct {
	X, Y, DX, DY int
}

// Passes tells Adam7's seven. Each but the first halves what the ones ahead of
// it leave open, till all pixels are known.
func Passes() []Pass {
	known, all := Pass{DX: 8, DY: 8}, Pass{DX: 1, DY: 1}
	passes := []Pass{known}
	for known != all {
		p := between(known)
		passes = append(passes, p)
		known.DX, known.DY = p.DX-p.X, p.DY-p.Y
	}
	return passes
}

// between tells the pass half-way between the columns of what is known, or
// between its rows, when these are farther apart.
func between(known Pass) Pass {
	if known.DY > known.DX {
		known.Y = known.DY / 2
	} else {
		known.X = known.DX / 2
	}
	return known
}

// Size tells how many pixels a pass has, each way.
func Size(p Pass, w, h int) (int, int) {
	if !isSide(w) || !isSide(h) || !goesOn(p) {
		return 0, 0
	}
	wide, high := upwards(w-p.X, p.DX), upwards(h-p.Y, p.DY)
	if wide == 0 || high == 0 {
		return 0, 0
	}
	return wide, high
}

// goesOn tells whether a pass begins at a pixel and steps forward from there.
func goesOn(p Pass) bool {
	return p.X >= 0 && p.Y >= 0 && p.DX > 0 && p.DY > 0
}
