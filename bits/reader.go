package bits

import (
	"slices"

	"valise/api"
)

// Reader takes bits out one behind the other.
type Reader struct {
	data []byte
	at   int // in bits
}

// NewReader begins at the first bit of a copy of data.
func NewReader(data []byte) *Reader {
	if len(data) > api.MaxPacked {
		return nil
	}
	return &Reader{data: slices.Clone(data)}
}

// Take takes n bits out: the first one is the lowest of what is answered.
func (r *Reader) Take(n int) (uint32, api.Errno) {
	if r == nil || !countable(n) {
		return 0, api.ErrArg
	}
	if n > r.Left() {
		return 0, api.ErrBitsEnd
	}
	v := r.ahead(n)
	r.at += n
	return v, api.OK
}

// Peek tells what Take would, with zero bits behind the end, and how many of the n bits are there.
func (r *Reader) Peek(n int) (uint32, int) {
	if r == nil || !countable(n) {
		return 0, 0
	}
	return r.ahead(n), min(n, r.Left())
}

// Skip leaves n bits out.
func (r *Reader) Skip(n int) api.Errno {
	if r == nil || n < 0 {
		return api.ErrArg
	}
	if n > r.Left() {
		return api.ErrBitsEnd
	}
	r.at += n
	return api.OK
}

// Align leaves bits out up to the border of a byte.
func (r *Reader) Align() {
	if r != nil {
		r.at = (r.at + 7) / 8 * 8
	}
}

// Raw takes n whole bytes out, at the border of a byte.
func (r *Reader) Raw(n int) ([]byte, api.Errno) {
	if r == nil || n < 0 {
		return nil, api.ErrArg
	}
	if r.at%8 > 0 {
		return nil, api.ErrBitsEdge
	}
	if n > r.Left()/8 { // 8n could leave the ints
		return nil, api.ErrBitsEnd
	}
	from := r.at / 8
	r.at += 8 * n
	return append([]byte(nil), r.data[from:from+n]...), api.OK
}

// At tells how many bits have been taken or left out.
func (r *Reader) At() int {
	if r == nil {
		return 0
	}
	return r.at
}

// Left tells how many bits there are still.
func (r *Reader) Left() int {
	if r == nil {
		return 0
	}
	return 8*len(r.data) - r.at
}

// ahead tells the next n bits, at most 32 of them; those behind the end are 0.
func (r *Reader) ahead(n int) uint32 {
	from, to := r.at/8, min((r.at+n+7)/8, len(r.data))
	v := uint64(0) // 32 bits that begin within a byte lie in five bytes
	for i, b := range r.data[from:to] {
		v |= uint64(b) << (8 * i)
	}
	return uint32(v >> (r.at % 8) & (1<<n - 1))
}
