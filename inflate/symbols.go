package inflate

import (
	"valise/api"
	"valise/code"
)

const (
	blockEnd     = 256
	firstLength  = 257
	lastLength   = 285
	lastDistance = 29
)

// lengthSpan tells the least length of a symbol, and how many further bits say what is added to it. From 11 on four symbols share each number of further bits: they part what lies between two powers of 2, moved by 3, into quarters.
func lengthSpan(symbol int) (base, further int) {
	if symbol == lastLength {
		return api.MaxMatch, 0
	}
	i := symbol - firstLength
	if i < 8 {
		return api.MinMatch + i, 0
	}
	further = i/4 - 1
	return api.MinMatch + (4+i%4)<<further, further
}

// distanceSpan tells the same of a distance. From 5 on two symbols share each number of further bits: they part what lies between two powers of 2, moved by 1, into halves.
func distanceSpan(symbol int) (base, further int) {
	if symbol < 4 {
		return 1 + symbol, 0
	}
	further = symbol/2 - 1
	return 1 + (2+symbol%2)<<further, further
}

// symbols reads the symbols of a block up to its end.
func (t *text) symbols(c codes) {
	for {
		symbol := t.symbol(c.lit)
		switch {
		case symbol < blockEnd:
			t.room(1)
			t.out = append(t.out, byte(symbol))
		case symbol > blockEnd:
			length := t.length(symbol)
			t.again(length, t.distance(c.dist))
		default:
			return
		}
	}
}

// symbol takes the next symbol of a code.
func (t *text) symbol(d *code.Decoder) int {
	symbol, e := d.Next(t.in)
	if e == api.ErrCodeEnd {
		giveUp(api.ErrInfEnd)
	}
	if e != api.OK {
		giveUp(api.ErrInfSymbol)
	}
	return symbol
}

// length takes what is left of a copy's length.
func (t *text) length(symbol int) int {
	if symbol > lastLength {
		giveUp(api.ErrInfSymbol)
	}
	base, further := lengthSpan(symbol)
	return base + t.take(further)
}

// distance takes a copy's distance.
func (t *text) distance(d *code.Decoder) int {
	if d == nil {
		giveUp(api.ErrInfSymbol)
	}
	symbol := t.symbol(d)
	if symbol > lastDistance {
		giveUp(api.ErrInfSymbol)
	}
	base, further := distanceSpan(symbol)
	return base + t.take(further)
}

// again makes a copy. What it has copied it may go on to copy: each turn takes all that stands from the copy's source on, which repeats itself, so the turns grow.
func (t *text) again(length, distance int) {
	if distance > len(t.out) {
		giveUp(api.ErrInfFar)
	}
	t.room(length)
	from := len(t.out) - distance
	for length > 0 {
		n := min(length, len(t.out)-from)
		t.out = append(t.out, t.out[from:from+n]...)
		length -= n
	}
}
