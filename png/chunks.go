package png

import (
	"slices"
	"strings"

	"phosphor/api"
	"phosphor/bits"
	"phosphor/sums"
)

// signature is what every file begins with.
const signature = "\x89PNG\r\n\x1a\n"

const (
	lengthSize = 4
	kindSize   = 4
	sumSize    = 4
	maxLength  = 1<<31 - 1
)

// Chunks tells the chunks of the file at b's front.
func Chunks(b []byte) ([]Chunk, api.Errno) {
	l, e := split(b)
	for i := range l {
		l[i].Data = slices.Clone(l[i].Data)
	}
	return l, e
}

// Lay tells a file of these chunks.
func Lay(l ...Chunk) []byte {
	out := []byte(signature)
	for _, c := range l {
		var letters [kindSize]byte
		copy(letters[:], c.Kind)
		out = appendBig(out, len(c.Data))
		out = append(out, letters[:]...)
		out = append(out, c.Data...)
		out = appendBig(out, int(sums.Of(sums.NewCrc(), letters[:], c.Data)))
	}
	return out
}

// split tells the chunks with data that is b's.
func split(b []byte) ([]Chunk, api.Errno) {
	b, e := begin(b)
	if e != api.OK {
		return nil, e
	}
	var l []Chunk
	for {
		c, rest, e := next(b)
		if e != api.OK {
			return nil, e
		}
		l = append(l, c)
		if c.Kind == "IEND" {
			return l, api.OK
		}
		b = rest
	}
}

// begin tells what is left of a file behind its signature.
func begin(b []byte) ([]byte, api.Errno) {
	n := min(len(b), len(signature))
	switch {
	case !strings.HasPrefix(signature, string(b[:n])):
		return nil, api.ErrForm
	case n < len(signature):
		return nil, api.ErrShort
	}
	return b[n:], api.OK
}

// next tells the chunk at b's front, with data that is b's, and what is left
// behind it. What a part says is asked as soon as the part is there, so that
// what cannot be is told ahead of what lacks behind it.
func next(b []byte) (Chunk, []byte, api.Errno) {
	if len(b) < lengthSize {
		return Chunk{}, nil, api.ErrShort
	}
	length := int(bits.Big(b))
	if length > maxLength {
		return Chunk{}, nil, api.ErrForm
	}
	b = b[lengthSize:]
	if len(b) < kindSize {
		return Chunk{}, nil, api.ErrShort
	}
	if !areLetters(b[:kindSize]) {
		return Chunk{}, nil, api.ErrForm
	}
	past := kindSize + length
	if len(b) < past+sumSize {
		return Chunk{}, nil, api.ErrShort
	}
	if sums.Of(sums.NewCrc(), b[:past]) != bits.Big(b[past:]) {
		return Chunk{}, nil, api.ErrSum
	}
	c := Chunk{Kind: string(b[:kindSize]), Data: b[kindSize:past:past]}
	return c, b[past+sumSize:], api.OK
}

// areLetters tells whether all are A to Z, a to z.
func areLetters(b []byte) bool {
	for _, v := range b {
		if !isCapital(v) && (v < 'a' || v > 'z') {
			return false
		}
	}
	return true
}

// isCapital tells whether a letter is one of A to Z.
func isCapital(v byte) bool { return v >= 'A' && v <= 'Z' }

// appendBig lays a number of 32 bits behind b, the highest byte first.
func appendBig(b []byte, n int) []byte {
	return append(b, byte(n>>24), byte(n>>16), byte(n>>8), byte(n))
}
