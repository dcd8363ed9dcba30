package header

// The symbols of the small code beyond the lengths 0 to 15.
const (
	repeat       = 16 // the length ahead once more, so often
	fewZeros     = 17
	manyZeros    = 18
	smallSymbols = 19
)

const (
	blockEnd      = 256          // the symbol that ends a block: no block does without it
	leastLit      = blockEnd + 1 // as many lengths as the number of 5 bits counts from
	mostLit       = 286
	leastDist     = 1
	mostDist      = 30
	leastSmall    = 4
	mostSmallBits = 7 // a length of the small code is written in 3 bits
)

// order is that of the small code's lengths in a header: what a text seldom has stands last, so that it can be left out.
var order = [smallSymbols]int{16, 17, 18, 0, 8, 7, 9, 6, 10, 5, 11, 4, 12, 3, 13, 2, 14, 1, 15}

// least has for each Sym its least Count.
var least = [smallSymbols]int{1, 1, 1, 1, 1, 1, 1, 1, 1, 1, 1, 1, 1, 1, 1, 1, 3, 3, 11}

// further has for each Sym how many bits stand behind its code word: they say how far the Count is above its least.
var further = [smallSymbols]int{0, 0, 0, 0, 0, 0, 0, 0, 0, 0, 0, 0, 0, 0, 0, 0, 2, 3, 7}

// most tells the greatest Count of a Sym.
func most(sym int) int { return least[sym] + 1<<further[sym] - 1 }
