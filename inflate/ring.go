package inflate

// farthest is how many bytes a distance reaches back at most.
const farthest = 1 << 15

// ring holds the last bytes that were put: each one stands where the one farthest behind it stood.
type ring struct {
	b []byte
	n int // how many were put
}

func newRing() ring { return ring{b: make([]byte, farthest)} }

// put lets go of the one that nothing reaches any more.
func (w *ring) put(c byte) {
	w.b[w.n%farthest] = c
	w.n++
}

// back tells the byte that was put so long ago, 1 being the last one.
func (w *ring) back(distance int) byte { return w.b[(w.n-distance)%farthest] }
