package inflate

import (
	"valise/api"
	"valise/code"
	"valise/items"
)

const blockEnd = 256

// symbols reads the symbols of a block up to its end.
func (t *text) symbols(c codes) {
	for {
		symbol := t.symbol(c.lit)
		switch {
		case symbol < blockEnd:
			t.room(1)
			t.out = append(t.out, byte(symbol))
		case symbol > blockEnd:
			length := t.length(symbol)
			t.again(length, t.distance(c.dist))
		default:
			return
		}
	}
}

// symbol takes the next symbol of a code.
func (t *text) symbol(d *code.Decoder) int {
	symbol, e := d.Next(t.in)
	if e == api.ErrCodeEnd {
		giveUp(api.ErrInfEnd)
	}
	if e != api.OK {
		giveUp(api.ErrInfSymbol)
	}
	return symbol
}

// length takes what is left of a copy's length.
func (t *text) length(symbol int) int {
	base, further, ok := items.Length(symbol)
	if !ok {
		giveUp(api.ErrInfSymbol)
	}
	return base + t.take(further)
}

// distance takes a copy's distance.
func (t *text) distance(d *code.Decoder) int {
	if d == nil {
		giveUp(api.ErrInfSymbol)
	}
	base, further, ok := items.Distance(t.symbol(d))
	if !ok {
		giveUp(api.ErrInfSymbol)
	}
	return base + t.take(further)
}

// again makes a copy. What it has copied it may go on to copy: each turn takes all that stands from the copy's source on, which repeats itself, so the turns grow.
func (t *text) again(length, distance int) {
	if distance > len(t.out) {
		giveUp(api.ErrInfFar)
	}
	t.room(length)
	from := len(t.out) - distance
	for length > 0 {
		n := min(length, len(t.out)-from)
		t.out = append(t.out, t.out[from:from+n]...)
		length -= n
	}
}
