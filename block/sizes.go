package block

import (
	"valise/api"
	"valise/build"
	"valise/code"
	"valise/header"
)

// pair has a number for each symbol of literals and lengths, and for each of distances: how often it stands in a block, or how long its code word is.
type pair struct {
	lit, dist []int
}

const (
	startBits  = 1 + 2   // whether the block is the last one, and its kind
	storedBits = 16 + 16 // how many raw bytes there are, and the complement
)

// count tells how often each symbol stands in a block of tokens that may be.
func count(tokens []api.Token) pair {
	freq := pair{make([]int, litSymbols), make([]int, distSymbols)}
	for _, token := range tokens {
		if token.Len == 0 {
			freq.lit[token.Lit]++
			continue
		}
		length, _, _, _ := LengthSymbol(token.Len)
		dist, _, _, _ := DistSymbol(token.Dist)
		freq.lit[length]++
		freq.dist[dist]++
	}
	freq.lit[blockEnd] = 1
	return freq
}

// trees tells the cheapest code lengths. There are fewer symbols than words of 15 bits, so there always are some.
func trees(freq pair) pair {
	lit, _ := build.Limited(freq.lit, api.MaxBits)
	dist, _ := build.Limited(freq.dist, api.MaxBits)
	return pair{lit, dist}
}

// fixed tells the code lengths that everybody knows. They have words for symbols that no block has.
func fixed() pair { return pair{code.FixedLit(), code.FixedDist()} }

// missing tells how many bits a stored block that begins at the bit at fills up to the border of a byte.
func missing(at int) int { return (16 - startBits - at%8) % 8 }

func storedSize(n, at int) int { return startBits + missing(at) + storedBits + 8*n }

func dynamicSize(freq pair) int {
	lens := trees(freq)
	h, _ := header.Make(lens.lit, lens.dist)
	return startBits + h.Size + bodySize(freq, lens)
}

// bodySize tells how many bits the symbols take with their further bits. The lengths may be of more symbols than are counted.
func bodySize(freq, lens pair) int {
	lit, _ := build.Cost(freq.lit, lens.lit[:litSymbols])
	dist, _ := build.Cost(freq.dist, lens.dist[:distSymbols])
	return lit + dist + furtherSize(freq)
}

// furtherSize tells how many further bits the symbols have.
func furtherSize(freq pair) int {
	n := 0
	for at, s := range lengths {
		n += freq.lit[firstLength+at] * s.further
	}
	for at, s := range distances {
		n += freq.dist[at] * s.further
	}
	return n
}
