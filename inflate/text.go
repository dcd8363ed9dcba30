package inflate

import (
	"valise/api"
	"valise/bits"
	"valise/code"
	"valise/header"
)

// text is a packed text that is being read. Its methods give up where it can't go on.
type text struct {
	in    *bits.Reader
	out   []byte
	limit int
	done  bool
	fixed codes // made with the first fixed block: there may be millions of them in one text
}

// codes is the two codes of a block. One that has no words has no decoder.
type codes struct{ lit, dist *code.Decoder }

// mayBe tells whether the arguments of a call are in their domain.
func mayBe(data []byte, limit int) bool {
	return len(data) <= api.MaxPacked && limit >= 0 && limit <= api.MaxCapacity
}

func begin(data []byte, limit int) *text {
	if !mayBe(data, limit) {
		giveUp(api.ErrArg)
	}
	return &text{in: bits.NewReader(data), limit: limit}
}

// block reads the next block to its end.
func (t *text) block() api.Piece {
	p := api.Piece{From: t.in.At(), Start: len(t.out)}
	p.Final = t.take(1) == 1
	p.Kind = t.take(2)
	switch p.Kind {
	case api.KindStored:
		t.stored()
	case api.KindFixed:
		t.symbols(t.fixedCodes())
	case api.KindDynamic:
		t.symbols(t.ownCodes())
	default:
		giveUp(api.ErrInfKind)
	}
	p.To, p.End = t.in.At(), len(t.out)
	t.done = p.Final
	return p
}

// take takes a number of n bits.
func (t *text) take(n int) int {
	v, e := t.in.Take(n)
	if e != api.OK {
		giveUp(api.ErrInfEnd)
	}
	return int(v)
}

// room asks that n bytes more are within the limit.
func (t *text) room(n int) {
	if n > t.limit-len(t.out) {
		giveUp(api.ErrInfLimit)
	}
}

// stored reads the bytes of a stored block. That they are too many comes ahead of that they are not there.
func (t *text) stored() {
	t.in.Align()
	n, rest := t.take(16), t.take(16)
	if n+rest != api.MaxRaw {
		giveUp(api.ErrInfStored)
	}
	t.room(n)
	raw, e := t.in.Raw(n)
	if e != api.OK {
		giveUp(api.ErrInfEnd)
	}
	t.out = append(t.out, raw...)
}

func (t *text) fixedCodes() codes {
	if t.fixed.lit == nil {
		t.fixed = newCodes(code.FixedLit(), code.FixedDist())
	}
	return t.fixed
}

// ownCodes reads the header of a dynamic block.
func (t *text) ownCodes() codes {
	lit, dist, e := header.Read(t.in)
	if e != api.OK {
		giveUp(e)
	}
	return newCodes(lit, dist)
}

// newCodes needs no errors: lengths that a header may have are those of a decoder, but for distances that have no words.
func newCodes(lit, dist []int) codes {
	var c codes
	c.lit, _ = code.NewDecoder(lit)
	c.dist, _ = code.NewDecoder(dist)
	return c
}
