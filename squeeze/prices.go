package squeeze

import (
	"valise/api"
	"valise/block"
)

const (
	litSymbols  = 286
	distSymbols = 30
	blockEnd    = 256 // the symbol that ends a block
	maxPrice    = 65536
)

// prices has what each symbol of literals and lengths costs, and each of distances.
type prices struct {
	lit, dist []int
}

// mayBe says whether there is a price for each symbol, and all are within their bounds.
func (p prices) mayBe() bool {
	return len(p.lit) == litSymbols && len(p.dist) == distSymbols && within(p.lit) && within(p.dist)
}

func within(list []int) bool {
	for _, price := range list {
		if price < 1 || price > maxPrice {
			return false
		}
	}
	return true
}

// lengths tells what each length of a copy costs without its distance.
func (p prices) lengths() [api.MaxMatch + 1]int {
	var costs [api.MaxMatch + 1]int
	for length := api.MinMatch; length <= api.MaxMatch; length++ {
		symbol, _, _, _ := block.LengthSymbol(length)
		costs[length] = p.lit[symbol]
	}
	return costs
}

// learned tells the prices of a block whose code words have these lengths.
func learned(lit, dist []int) prices {
	p := prices{make([]int, litSymbols), make([]int, distSymbols)}
	for symbol, further := range lengthBits() {
		p.lit[symbol] = wordBits(lit[symbol]) + further
	}
	for symbol, s := range spans(api.Window) {
		p.dist[symbol] = wordBits(dist[symbol]) + s.further
	}
	return p
}

// wordBits is what a code word of that length costs. A symbol without one isn't ruled out, only dear: the next tokens may be better off with it.
func wordBits(length int) int {
	if length == 0 {
		return api.MaxBits
	}
	return length
}

// lengthBits tells how many further bits each symbol of literals and lengths has.
func lengthBits() [litSymbols]int {
	var further [litSymbols]int
	for length := api.MinMatch; length <= api.MaxMatch; length++ {
		symbol, n, _, _ := block.LengthSymbol(length)
		further[symbol] = n
	}
	return further
}

// span is the distances of one symbol.
type span struct {
	near, far int // the least and the greatest of them
	further   int // how many further bits tell one from the other
}

// spans tells what each symbol says of the distances within a window; a symbol that has none of them is left out.
func spans(window int) []span {
	var all []span
	for near := 1; near <= window; {
		_, further, _, _ := block.DistSymbol(near)
		next := near + 1<<further
		all = append(all, span{near, min(next-1, window), further})
		near = next
	}
	return all
}

// cost tells what symbols cost that stand so often.
func cost(freq, list []int) int {
	sum := 0
	for symbol, n := range freq {
		sum += n * list[symbol]
	}
	return sum
}

// unlike tells block's refusal as this layer's own.
func unlike(e api.Errno) api.Errno {
	if e == api.ErrBlockToken {
		return api.ErrUnlike
	}
	return e
}
