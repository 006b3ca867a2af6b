package png

import (
	"phosphor/api"
	"phosphor/pixel"
	"phosphor/zlib"
)

// maxKind is the last kind of filter.
const maxKind = 4

// Encode tells m as a file; nothing, if m has no pixels, or is none.
func Encode(m api.Matrix, lace bool, kind int) []byte {
	if m.W == 0 || !pixel.Right(m) {
		return nil
	}
	if kind < 0 || kind > maxKind {
		kind = 0
	}
	h := Head{W: m.W, H: m.H, Depth: 8, Color: rgba}
	if lace {
		h.Lace = 1
	}
	raw := make([]byte, 0, rawSize(h))
	do := doer(h, m, kind)
	for r := range rows(h) {
		raw = append(raw, do(r)...)
	}
	return Lay(
		Chunk{Kind: "IHDR", Data: layHead(h)},
		Chunk{Kind: "IDAT", Data: zlib.Pack(raw, false)},
		Chunk{Kind: "IEND"},
	)
}
