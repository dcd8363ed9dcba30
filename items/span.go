package items

import "valise/api"

const (
	blockEnd     = 256
	firstLength  = 257
	lastLength   = 285
	lastDistance = 29
)

// Length tells the least length of a copy's symbol, and how many further bits say what is added to it; not ok: the symbol begins no copy. From 11 on four symbols share each number of further bits: they part what lies between two powers of 2, moved by 3, into quarters.
func Length(symbol int) (base, further int, ok bool) {
	if symbol < firstLength || symbol > lastLength {
		return 0, 0, false
	}
	if symbol == lastLength {
		return api.MaxMatch, 0, true
	}
	i := symbol - firstLength
	if i < 8 {
		return api.MinMatch + i, 0, true
	}
	further = i/4 - 1
	return api.MinMatch + (4+i%4)<<further, further, true
}

// Distance tells the same of a distance's symbol. From 5 on two symbols share each number of further bits: they part what lies between two powers of 2, moved by 1, into halves.
func Distance(symbol int) (base, further int, ok bool) {
	if symbol < 0 || symbol > lastDistance {
		return 0, 0, false
	}
	if symbol < 4 {
		return 1 + symbol, 0, true
	}
	further = symbol/2 - 1
	return 1 + (2+symbol%2)<<further, further, true
}
