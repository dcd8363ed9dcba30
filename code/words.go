package code

import "valise/api"

// rows is how many rows of MaxBits bits there are.
const rows = 1 << api.MaxBits

// perLength has a number for each length of a word; the one at 0 stays 0, for no word is that short.
type perLength [api.MaxBits + 1]int

// count tells how many words there are of each length.
func count(lens []int) perLength {
	var counts perLength
	for _, n := range lens {
		if n > 0 {
			counts[n]++
		}
	}
	return counts
}

// shape tells what kind of set so many words of each length make.
func shape(counts perLength) int {
	switch u := used(counts); {
	case counts == perLength{}:
		return api.ShapeEmpty
	case counts == perLength{1: 1}:
		return api.ShapeSingle
	case u > rows:
		return api.ShapeOver
	case u == rows:
		return api.ShapeComplete
	}
	return api.ShapeUnder
}

// used tells how many of the rows begin with a word.
func used(counts perLength) int {
	u := 0
	for n, c := range counts {
		u += c * (rows >> n)
	}
	return u
}

// firsts tells the first word of each length. Where no word has a length, it is the one that would come: so the next longer length need not know which one was used last.
func firsts(counts perLength) perLength {
	var first perLength
	for n := 1; n <= api.MaxBits; n++ {
		first[n] = (first[n-1] + counts[n-1]) << 1
	}
	return first
}

// words tells each symbol's word, of each length from its first word on.
func words(lens []int, next perLength) []int {
	out := make([]int, len(lens))
	for symbol, n := range lens {
		if n > 0 {
			out[symbol] = next[n]
			next[n]++
		}
	}
	return out
}
