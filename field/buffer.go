package field

import (
	"slices"

	"valise/api"
)

// Buffer takes fields one behind the other; its first error stays.
type Buffer struct {
	data  []byte
	limit int
	err   api.Errno
}

// NewBuffer makes an empty buffer that may hold so many bytes.
func NewBuffer(limit int) *Buffer {
	if limit < 0 {
		return &Buffer{err: api.ErrArg}
	}
	return &Buffer{limit: limit}
}

// U8 puts a byte.
func (b *Buffer) U8(v int) { b.number(v, 1) }

// U16 puts two bytes, the low one first.
func (b *Buffer) U16(v int) { b.number(v, 2) }

// U32 puts four bytes, the lowest first.
func (b *Buffer) U32(v int) { b.number(v, 4) }

// Text puts the bytes of a text.
func (b *Buffer) Text(s string) {
	if b.Err() == api.OK && b.room(len(s)) {
		b.data = append(b.data, s...)
	}
}

// Patch32 puts four bytes in the place of those at a place.
func (b *Buffer) Patch32(at, v int) {
	if b.Err() != api.OK {
		return
	}
	if at < 0 || at > len(b.data)-4 { // at + 4 could leave the ints
		b.err = api.ErrArg
		return
	}
	if b.fits(v, 4) {
		for i := range 4 {
			b.data[at+i] = byte(v >> (8 * i))
		}
	}
}

// Len tells how many bytes have been put.
func (b *Buffer) Len() int {
	if b == nil {
		return 0
	}
	return len(b.data)
}

// Err tells the first error, or OK.
func (b *Buffer) Err() api.Errno {
	if b == nil {
		return api.ErrArg
	}
	return b.err
}

// Take tells the bytes (nil where there was an error).
func (b *Buffer) Take() []byte {
	if b.Err() != api.OK {
		return nil
	}
	return slices.Clone(b.data)
}

// number puts v as n bytes, all of them or none.
func (b *Buffer) number(v, n int) {
	if b.Err() != api.OK || !b.fits(v, n) || !b.room(n) {
		return
	}
	for i := range n {
		b.data = append(b.data, byte(v>>(8*i)))
	}
}

// fits tells whether v is a number of n bytes; where it isn't, that stands.
func (b *Buffer) fits(v, n int) bool {
	if v < 0 || v>>(8*n) > 0 {
		b.err = api.ErrFieldWide
		return false
	}
	return true
}

// room tells whether n more bytes may be held; where they may not, that stands.
func (b *Buffer) room(n int) bool {
	if n > b.limit-len(b.data) {
		b.err = api.ErrFieldLimit
		return false
	}
	return true
}
