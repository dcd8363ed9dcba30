package items

import (
	"valise/api"
	"valise/bits"
	"valise/code"
)

// codes is the two codes of a block. One that has no words has no decoder.
type codes struct{ lit, dist *code.Decoder }

// newCodes needs no errors: lengths that a header may have are those of a decoder, but for distances that have no words.
func newCodes(lit, dist []int) codes {
	var c codes
	c.lit, _ = code.NewDecoder(lit)
	c.dist, _ = code.NewDecoder(dist)
	return c
}

// take takes a literal or a copy, or the block's end.
func (c codes) take(r *bits.Reader) (token api.Token, end bool, e api.Errno) {
	symbol, e := takeSymbol(c.lit, r)
	switch {
	case e != api.OK:
		return api.Token{}, false, e
	case symbol < blockEnd:
		return api.Token{Lit: byte(symbol)}, false, api.OK
	case symbol == blockEnd:
		return api.Token{}, true, api.OK
	}
	length, e := takeAbove(Length, symbol, r)
	if e != api.OK {
		return api.Token{}, false, e
	}
	dist, e := c.takeDistance(r)
	if e != api.OK {
		return api.Token{}, false, e
	}
	return api.Token{Len: length, Dist: dist}, false, api.OK
}

// takeDistance takes a copy's distance. That there are no words for one comes ahead of that no bits are left.
func (c codes) takeDistance(r *bits.Reader) (int, api.Errno) {
	if c.dist == nil {
		return 0, api.ErrInfSymbol
	}
	symbol, e := takeSymbol(c.dist, r)
	if e != api.OK {
		return 0, e
	}
	return takeAbove(Distance, symbol, r)
}

// takeSymbol takes the next symbol of a code.
func takeSymbol(d *code.Decoder, r *bits.Reader) (int, api.Errno) {
	symbol, e := d.Next(r)
	switch e {
	case api.OK:
		return symbol, api.OK
	case api.ErrCodeEnd:
		return 0, api.ErrInfEnd
	}
	return 0, api.ErrInfSymbol
}

// takeAbove takes what is left of a length or of a distance, behind its symbol.
func takeAbove(span func(symbol int) (base, further int, ok bool), symbol int, r *bits.Reader) (int, api.Errno) {
	base, further, ok := span(symbol)
	if !ok {
		return 0, api.ErrInfSymbol
	}
	above, e := take(r, further)
	if e != api.OK {
		return 0, e
	}
	return base + above, api.OK
}

// lay lays what a token says behind the plain text. What a copy has laid it may go on to copy: each turn takes all that stands from the copy's source on, which repeats itself, so the turns grow.
func lay(plain []byte, token api.Token, room int) ([]byte, api.Errno) {
	if token.Dist > len(plain) {
		return plain, api.ErrInfFar
	}
	if max(token.Len, 1) > room {
		return plain, api.ErrInfLimit
	}
	if token.Len == 0 {
		return append(plain, token.Lit), api.OK
	}
	from := len(plain) - token.Dist
	for left := token.Len; left > 0; {
		n := min(left, len(plain)-from)
		plain = append(plain, plain[from:from+n]...)
		left -= n
	}
	return plain, api.OK
}
