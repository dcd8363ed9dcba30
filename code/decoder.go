package code

import (
	"valise/api"
	"valise/bits"
)

// Decoder takes symbols out of bits.
type Decoder struct {
	book
	symbols []int     // those that have a word: by the lengths of their words, those of one length by their words
	shifts  perLength // of each length: what is added to a word to find its place in symbols
	ends    perLength // of each length: the number behind its last word
}

// NewDecoder makes the decoder of a complete code, or of a single word.
func NewDecoder(lens []int) (*Decoder, api.Errno) {
	b, e := newBook(lens)
	if e != api.OK {
		return nil, e
	}
	counts := count(b.lens)
	if shape(counts) == api.ShapeEmpty {
		return nil, api.ErrCodeEmpty
	}
	d := &Decoder{book: b}
	d.arrange(counts, firsts(counts))
	return d, api.OK
}

// arrange brings the symbols into the order of their words.
func (d *Decoder) arrange(counts, first perLength) {
	shorter := 0
	for n, c := range counts {
		d.shifts[n] = shorter - first[n]
		d.ends[n] = first[n] + c
		shorter += c
	}
	d.symbols = make([]int, shorter)
	for symbol, n := range d.lens {
		if n > 0 {
			d.symbols[d.shifts[n]+d.words[symbol]] = symbol
		}
	}
}

// Next takes the next symbol out.
func (d *Decoder) Next(r *bits.Reader) (int, api.Errno) {
	if d == nil || r == nil {
		return 0, api.ErrArg
	}
	ahead, there := r.Peek(api.MaxBits)
	symbol, ok := d.find(ahead)
	if !ok {
		return 0, api.ErrCodeNone
	}
	n := d.lens[symbol]
	if n > there { // the zero bits behind the end have ended a word that the bits only begin
		return 0, api.ErrCodeEnd
	}
	return symbol, r.Skip(n)
}

// find tells the symbol with whose word the bits begin, the lowest first. Behind all words that are shorter, no number of n bits lies below the first word of n bits: so it is enough to ask for the last one.
func (d *Decoder) find(ahead uint32) (int, bool) {
	word := 0
	for n := 1; n <= api.MaxBits; n++ {
		word = word<<1 | int(ahead&1)
		if word < d.ends[n] {
			return d.symbols[d.shifts[n]+word], true
		}
		ahead >>= 1
	}
	return 0, false
}
