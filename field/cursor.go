// Package field: little-endian fields with their bounds, and the CRC-32: see doc/02-field.md.
package field

import (
	"slices"

	"valise/api"
)

// Cursor reads fields one behind the other; its first error stays.
type Cursor struct {
	data []byte
	at   int
	err  api.Errno
}

// NewCursor begins at the first byte of a copy of data.
func NewCursor(data []byte) *Cursor { return &Cursor{data: slices.Clone(data)} }

// U8 reads a byte.
func (c *Cursor) U8() int { return c.number(1) }

// U16 reads two bytes, the low one first.
func (c *Cursor) U16() int { return c.number(2) }

// U32 reads four bytes, the lowest first.
func (c *Cursor) U32() int { return c.number(4) }

// Text reads n bytes.
func (c *Cursor) Text(n int) string { return string(c.next(n)) }

// Skip leaves n bytes out.
func (c *Cursor) Skip(n int) { c.next(n) }

// Seek goes to a place.
func (c *Cursor) Seek(at int) {
	if c.Err() != api.OK {
		return
	}
	if at < 0 || at > len(c.data) {
		c.err = api.ErrArg
		return
	}
	c.at = at
}

// At tells the place.
func (c *Cursor) At() int {
	if c == nil {
		return 0
	}
	return c.at
}

// Left tells how many bytes are behind the place.
func (c *Cursor) Left() int {
	if c == nil {
		return 0
	}
	return len(c.data) - c.at
}

// Err tells the first error, or OK.
func (c *Cursor) Err() api.Errno {
	if c == nil {
		return api.ErrArg
	}
	return c.err
}

// number reads a number of n bytes, 0 where next tells none.
func (c *Cursor) number(n int) int {
	v := 0
	for i, b := range c.next(n) {
		v |= int(b) << (8 * i)
	}
	return v
}

// next moves behind the next n bytes and tells them, or tells none. They are the cursor's own and don't leave the package.
func (c *Cursor) next(n int) []byte {
	if c.Err() != api.OK {
		return nil
	}
	if n < 0 {
		c.err = api.ErrArg
		return nil
	}
	if n > c.Left() {
		c.err = api.ErrFieldShort
		return nil
	}
	from := c.at
	c.at += n
	return c.data[from:c.at]
}
