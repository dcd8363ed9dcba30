package bits

import (
	"slices"

	"valise/api"
)

// Writer takes bits one behind the other.
type Writer struct {
	data []byte // the bytes that are whole
	rest uint64 // the bits behind them; above these it is 0
	held int    // how many bits rest has: between calls fewer than 8
}

// NewWriter makes an empty writer.
func NewWriter() *Writer { return &Writer{} }

// Put puts the n low bits of v, the lowest first.
func (w *Writer) Put(v uint32, n int) api.Errno {
	if w == nil || !fits(v, n) || n > w.room() {
		return api.ErrArg
	}
	w.put(uint64(v), n)
	return api.OK
}

// Align puts zero bits up to the border of a byte.
func (w *Writer) Align() {
	if w != nil && w.held > 0 {
		w.put(0, 8-w.held)
	}
}

// Raw puts whole bytes, at the border of a byte.
func (w *Writer) Raw(data []byte) api.Errno {
	if w == nil || len(data) > w.room()/8 {
		return api.ErrArg
	}
	if w.held > 0 {
		return api.ErrBitsEdge
	}
	w.bytes(data)
	return api.OK
}

// Join puts the bits of another writer.
func (w *Writer) Join(x *Writer) api.Errno {
	if w == nil || x == nil || x.Len() > w.room() {
		return api.ErrArg
	}
	rest, held := x.rest, x.held // x may be w, whose own rest moves on with the bytes
	w.bytes(x.data)
	w.put(rest, held)
	return api.OK
}

// Len tells how many bits have been put.
func (w *Writer) Len() int {
	if w == nil {
		return 0
	}
	return 8*len(w.data) + w.held
}

// Bytes tells the bytes, the last one filled up with zero bits.
func (w *Writer) Bytes() []byte {
	if w == nil {
		return nil
	}
	out := make([]byte, 0, len(w.data)+1)
	out = append(out, w.data...)
	if w.held > 0 {
		out = append(out, byte(w.rest))
	}
	return out
}

// room tells how many more bits may be put.
func (w *Writer) room() int { return most - w.Len() }

// put puts n bits, at most 32 of them: with those that are held they fit into rest.
func (w *Writer) put(v uint64, n int) {
	w.rest |= v << w.held
	w.held += n
	for w.held >= 8 {
		w.data = append(w.data, byte(w.rest))
		w.rest >>= 8
		w.held -= 8
	}
}

// bytes puts whole bytes at whatever bit the writer stands. They may be the writer's own: what is put goes behind them.
func (w *Writer) bytes(data []byte) {
	if w.held == 0 {
		w.data = append(w.data, data...)
		return
	}
	w.data = slices.Grow(w.data, len(data))
	for _, b := range data {
		w.put(uint64(b), 8)
	}
}
