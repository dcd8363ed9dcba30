// Package items: packed texts read item by item, also by who has only a part of one: which items there are is said in doc/18-stream.md.
package items

import (
	"valise/api"
	"valise/bits"
	"valise/code"
	"valise/header"
)

// place is what a text stands ahead of.
type place int

const (
	atBlock  place = iota // a block's first three bits
	atSize                // the two numbers of a stored block
	atBytes               // a byte of a stored block
	atHeader              // the header of a dynamic block
	atSymbol              // a literal, a copy, or the block's end
	atEnd                 // nothing more: the last block has ended
)

// Text is a packed text between two of its items. Its zero value stands ahead of the first one.
type Text struct {
	at    place
	final bool  // of the block that is being read: whether it is the last one
	left  int   // how many bytes of a stored block are still to come
	codes codes // of the block that is being read
	fixed codes // made with the first fixed block: there may be millions of them in one text
}

// Done tells whether the last block has ended.
func (t *Text) Done() bool { return t != nil && t.at == atEnd }

// Next takes the next item off, and tells the plain text with what the item says behind it: at most room bytes. Of a stored block's bytes it takes all that are there. With an error, which is ErrInfEnd or ErrHeadEnd where the item isn't whole, nothing has changed but the reader's place.
func (t *Text) Next(r *bits.Reader, plain []byte, room int) ([]byte, api.Errno) {
	if t == nil || r == nil {
		return plain, api.ErrArg
	}
	switch t.at {
	case atBlock:
		return plain, t.begin(r)
	case atSize:
		return plain, t.size(r, room)
	case atBytes:
		return t.bytes(r, plain)
	case atHeader:
		return plain, t.header(r)
	case atSymbol:
		return t.symbol(r, plain, room)
	}
	return plain, api.OK
}

// begin takes a block's first three bits.
func (t *Text) begin(r *bits.Reader) api.Errno {
	v, e := take(r, 3)
	if e != api.OK {
		return e
	}
	switch v >> 1 {
	case api.KindStored:
		t.at = atSize
	case api.KindFixed:
		t.at, t.codes = atSymbol, t.fixedCodes()
	case api.KindDynamic:
		t.at = atHeader
	default:
		return api.ErrInfKind
	}
	t.final = v&1 == 1
	return api.OK
}

// size takes the two numbers of a stored block.
func (t *Text) size(r *bits.Reader, room int) api.Errno {
	r.Align()
	n, e := take(r, 16)
	if e != api.OK {
		return e
	}
	rest, e := take(r, 16)
	if e != api.OK {
		return e
	}
	if n+rest != api.MaxRaw {
		return api.ErrInfStored
	}
	if n > room {
		return api.ErrInfLimit
	}
	t.at, t.left = atBytes, n
	t.endStored()
	return api.OK
}

// bytes takes the bytes of a stored block that are there. That they are within the room is known from their number.
func (t *Text) bytes(r *bits.Reader, plain []byte) ([]byte, api.Errno) {
	raw, e := r.Raw(min(t.left, r.Left()/8))
	if e != api.OK || len(raw) == 0 {
		return plain, api.ErrInfEnd
	}
	t.left -= len(raw)
	t.endStored()
	return append(plain, raw...), api.OK
}

// endStored ends a stored block behind its last byte: it has no item for its end.
func (t *Text) endStored() {
	if t.left == 0 {
		t.endBlock()
	}
}

func (t *Text) endBlock() {
	t.codes = codes{}
	t.at = atBlock
	if t.final {
		t.at = atEnd
	}
}

// header takes the header of a dynamic block.
func (t *Text) header(r *bits.Reader) api.Errno {
	lit, dist, e := header.Read(r)
	if e != api.OK {
		return e
	}
	t.at, t.codes = atSymbol, newCodes(lit, dist)
	return api.OK
}

// symbol takes a literal, a copy or the block's end.
func (t *Text) symbol(r *bits.Reader, plain []byte, room int) ([]byte, api.Errno) {
	token, end, e := t.codes.take(r)
	if e != api.OK {
		return plain, e
	}
	if end {
		t.endBlock()
		return plain, api.OK
	}
	return lay(plain, token, room)
}

func (t *Text) fixedCodes() codes {
	if t.fixed.lit == nil {
		t.fixed = newCodes(code.FixedLit(), code.FixedDist())
	}
	return t.fixed
}

// take takes a number of n bits.
func take(r *bits.Reader, n int) (int, api.Errno) {
	v, e := r.Take(n)
	if e != api.OK {
		return 0, api.ErrInfEnd
	}
	return int(v), api.OK
}
