package seek

import (
	"math"

	"valise/api"
	"valise/bits"
	"valise/items"
)

// firstPiece is how many packed bytes a reading begins with.
const firstPiece = 1024

// reading is a packed text that is being read on from a mark. It hands its reader, which copies what it is given, the text piece by piece: so a reading costs what it reads, however much stands behind.
type reading struct {
	packed []byte
	next   int // the bit of packed at which the next item begins
	text   items.Text
	plain  []byte // the mark's window, and behind it what the items have made
	in     *bits.Reader
	from   int // the bytes of packed that the reader has: from .. to
	to     int
	piece  int // how many bytes it is handed with the next piece
}

// readOn reads a packed text on from a bit, where a block begins, till the window and the plain text behind it have the size, or more.
func readOn(packed []byte, bit int, window []byte, size int) ([]byte, api.Errno) {
	r := &reading{packed: packed, next: bit, plain: window, piece: firstPiece}
	r.refill()
	for len(r.plain) < size {
		if r.text.Done() {
			return nil, api.ErrInfSize
		}
		if e := r.item(); e != api.OK {
			return nil, e
		}
	}
	return r.plain, api.OK
}

// item reads the next item, or, where it was the piece that ended within it, makes ready to read it from the piece behind.
func (r *reading) item() api.Errno {
	plain, e := r.text.Next(r.in, r.plain, math.MaxInt)
	cut := e == api.ErrInfEnd || e == api.ErrHeadEnd
	if cut && r.to < len(r.packed) {
		r.refill()
		return api.OK
	}
	r.plain = plain
	r.next = 8*r.from + r.in.At()
	return e
}

// refill hands the reader a piece that begins with the next item. Each is twice as long as the one ahead of it: so however long an item is, some piece holds it whole.
func (r *reading) refill() {
	r.from = min(r.next/8, len(r.packed))
	r.to = min(r.from+r.piece, len(r.packed))
	r.piece *= 2
	r.in = bits.NewReader(r.packed[r.from:r.to])
	r.in.Skip(r.next % 8)
}
