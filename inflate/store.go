package inflate

import "phosphor/bits"

// maxStored is how many bytes a stored block has at most.
const maxStored = 1<<16 - 1

// Store tells b as stored blocks.
func Store(b []byte) []byte {
	w := bits.NewWriter()
	for len(b) > maxStored {
		layStored(w, b[:maxStored], 0)
		b = b[maxStored:]
	}
	layStored(w, b, 1)
	return w.Done()
}

// layStored lays one block; last is 1, if it is the last one.
func layStored(w *bits.Writer, b []byte, last uint32) {
	n := uint32(len(b))
	w.Bits(last|kindStored<<1, 3)
	w.Align()
	w.Bits(n, 16)
	w.Bits(^n, 16)
	w.Bytes(b)
}

// Fixed tells b as one fixed block without repeats.
func Fixed(b []byte) []byte {
	t := fixed().literals
	w := bits.NewWriter()
	w.Bits(1|kindFixed<<1, 3)
	for _, c := range b {
		w.Bits(t.Code(int(c)))
	}
	w.Bits(t.Code(endOfBlock))
	return w.Done()
}
