package block

import (
	"sort"

	"valise/api"
)

const (
	blockEnd    = 256 // the symbol that ends a block
	firstLength = 257
	litSymbols  = 286
	distSymbols = 30
)

// span is what one symbol says: the least length or distance of it, and how many further bits stand behind its code word, whose number is added.
type span struct {
	base, further int
}

// lengths are the spans of the symbols from 257 on. The last one is a word of its own for what the one ahead could say too: the longest copy is the most frequent of the long ones.
var lengths = [litSymbols - firstLength]span{
	{3, 0}, {4, 0}, {5, 0}, {6, 0}, {7, 0}, {8, 0}, {9, 0}, {10, 0},
	{11, 1}, {13, 1}, {15, 1}, {17, 1},
	{19, 2}, {23, 2}, {27, 2}, {31, 2},
	{35, 3}, {43, 3}, {51, 3}, {59, 3},
	{67, 4}, {83, 4}, {99, 4}, {115, 4},
	{131, 5}, {163, 5}, {195, 5}, {227, 5},
	{258, 0},
}

// distances are the spans of the distances' symbols.
var distances = [distSymbols]span{
	{1, 0}, {2, 0}, {3, 0}, {4, 0},
	{5, 1}, {7, 1},
	{9, 2}, {13, 2},
	{17, 3}, {25, 3},
	{33, 4}, {49, 4},
	{65, 5}, {97, 5},
	{129, 6}, {193, 6},
	{257, 7}, {385, 7},
	{513, 8}, {769, 8},
	{1025, 9}, {1537, 9},
	{2049, 10}, {3073, 10},
	{4097, 11}, {6145, 11},
	{8193, 12}, {12289, 12},
	{16385, 13}, {24577, 13},
}

// LengthSymbol tells the symbol of a copy's length, how many further bits it has, and what they say.
func LengthSymbol(length int) (symbol, bits, extra int, e api.Errno) {
	if length < api.MinMatch || length > api.MaxMatch {
		return 0, 0, 0, api.ErrArg
	}
	at := sort.Search(len(lengths), func(i int) bool { return lengths[i].base > length }) - 1
	return firstLength + at, lengths[at].further, length - lengths[at].base, api.OK
}

// DistSymbol tells the symbol of a copy's distance, how many further bits it has, and what they say.
func DistSymbol(dist int) (symbol, bits, extra int, e api.Errno) {
	if dist < 1 || dist > api.Window {
		return 0, 0, 0, api.ErrArg
	}
	at := sort.Search(len(distances), func(i int) bool { return distances[i].base > dist }) - 1
	return at, distances[at].further, dist - distances[at].base, api.OK
}

// LengthOf tells the length that a symbol and its further bits say.
func LengthOf(symbol, extra int) (int, api.Errno) {
	if symbol < firstLength || symbol >= litSymbols {
		return 0, api.ErrArg
	}
	return lengths[symbol-firstLength].with(extra)
}

// DistOf tells the distance that a symbol and its further bits say.
func DistOf(symbol, extra int) (int, api.Errno) {
	if symbol < 0 || symbol >= distSymbols {
		return 0, api.ErrArg
	}
	return distances[symbol].with(extra)
}

// with tells the base and what the further bits say.
func (s span) with(extra int) (int, api.Errno) {
	if extra < 0 || extra >= 1<<s.further {
		return 0, api.ErrArg
	}
	return s.base + extra, api.OK
}
