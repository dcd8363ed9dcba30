package code

import (
	"slices"

	"valise/api"
)

// book holds what an encoder and a decoder both need: for each symbol its word's length, and its word.
type book struct {
	lens, words []int
}

// newBook makes the book of code lengths whose words are just enough, or a single one, or none.
func newBook(lens []int) (book, api.Errno) {
	s, e := Check(lens)
	switch {
	case e != api.OK:
		return book{}, e
	case s == api.ShapeUnder:
		return book{}, api.ErrCodeUnder
	case s == api.ShapeOver:
		return book{}, api.ErrCodeOver
	}
	return book{slices.Clone(lens), words(lens, firsts(count(lens)))}, api.OK
}

// length tells how many bits the symbol's word has, 0 where it has none.
func (b *book) length(symbol int) int {
	if symbol < 0 || symbol >= len(b.lens) {
		return 0
	}
	return b.lens[symbol]
}
