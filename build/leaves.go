package build

import (
	"cmp"
	"slices"

	"valise/api"
)

// weighable tells whether each frequency is one that the sums below have room for.
func weighable(freq []int) bool {
	for _, f := range freq {
		if f < 0 || f > api.MaxFreq {
			return false
		}
	}
	return true
}

// used tells the symbols whose frequency is above 0, rising: the leaves.
func used(freq []int) []int {
	var symbols []int
	for symbol, f := range freq {
		if f > 0 {
			symbols = append(symbols, symbol)
		}
	}
	return symbols
}

// lightestFirst brings rising symbols into the order of their frequencies. A stable sort leaves equals as they stand, by their symbols.
func lightestFirst(freq, symbols []int) {
	slices.SortStableFunc(symbols, func(a, b int) int { return cmp.Compare(freq[a], freq[b]) })
}

// pick tells the frequencies of the symbols, in their order.
func pick(freq, symbols []int) []int {
	weights := make([]int, len(symbols))
	for at, symbol := range symbols {
		weights[at] = freq[symbol]
	}
	return weights
}

// few makes n code lengths where at most one symbol is used. There is nothing to tell a lone symbol from, but it needs a word to be written.
func few(n int, symbols []int) []int {
	lens := make([]int, n)
	for _, symbol := range symbols {
		lens[symbol] = 1
	}
	return lens
}

// spread makes n code lengths: each leaf's at the place of its symbol.
func spread(n int, symbols, lengths []int) []int {
	lens := make([]int, n)
	for at, symbol := range symbols {
		lens[symbol] = lengths[at]
	}
	return lens
}
