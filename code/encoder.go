package code

import (
	"valise/api"
	"valise/bits"
)

// Encoder puts symbols as bits.
type Encoder struct {
	book
}

// NewEncoder makes the encoder of a complete code, or of a single word, or of none.
func NewEncoder(lens []int) (*Encoder, api.Errno) {
	b, e := newBook(lens)
	if e != api.OK {
		return nil, e
	}
	return &Encoder{b}, api.OK
}

// Put puts a symbol's code word.
func (e *Encoder) Put(w *bits.Writer, symbol int) api.Errno {
	if e == nil || w == nil {
		return api.ErrArg
	}
	n := e.length(symbol)
	if n == 0 {
		return api.ErrCodeSymbol
	}
	turned, _ := bits.Reverse(uint32(e.words[symbol]), n) // a writer puts the lowest bit first, a word has its first bit highest
	return w.Put(turned, n)
}

// Len tells how many bits a symbol's code word has.
func (e *Encoder) Len(symbol int) int {
	if e == nil {
		return 0
	}
	return e.length(symbol)
}
