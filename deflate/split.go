package deflate

import (
	"slices"

	"valise/api"
)

const (
	unitTokens  = 128  // of which blocks are put together
	blockTokens = 8192 // a block with so many takes in no more
	shortLength = 8    // the longest copy that counts as short
	nearDist    = 256  // the greatest distance that counts as near
)

// stretch is what is to be known of tokens that stand one behind the other.
type stretch struct {
	tokens  int
	bytes   int    // that the tokens say
	classes [8]int // how many tokens are of each class
}

// class tells of what class a token is: by it a text is told from another one.
func class(token api.Token) int {
	if token.Len == 0 {
		return int(token.Lit >> 6)
	}
	c := 4
	if token.Len > shortLength {
		c += 2
	}
	if token.Dist > nearDist {
		c++
	}
	return c
}

// survey tells what is to be known of tokens.
func survey(tokens []api.Token) stretch {
	s := stretch{tokens: len(tokens)}
	for _, token := range tokens {
		s.bytes += max(token.Len, 1)
		s.classes[class(token)]++
	}
	return s
}

// join tells what is to be known of a stretch and the one behind it.
func (s stretch) join(next stretch) stretch {
	s.tokens += next.tokens
	s.bytes += next.bytes
	for k, n := range next.classes {
		s.classes[k] += n
	}
	return s
}

// changes says whether the text of a unit is another one than that of the block ahead of it: their tables of shares, multiplied out so that nothing is rounded, differ by a half or more.
func (s stretch) changes(unit stretch) bool {
	apart := 0
	for k, n := range unit.classes {
		d := unit.tokens*s.classes[k] - s.tokens*n
		apart += max(d, -d)
	}
	return 2*apart >= unit.tokens*s.tokens
}

// closed says whether a block doesn't take in the unit behind it. A short unit tells too little of its text.
func (s stretch) closed(unit stretch) bool {
	return s.tokens == blockTokens || s.bytes+unit.bytes > api.MaxRaw ||
		unit.tokens == unitTokens && s.changes(unit)
}

// split tells the blocks of tokens that may be. One unit always makes a block, whatever it says: of no tokens too.
func split(tokens []api.Token) []stretch {
	var blocks []stretch
	first := min(unitTokens, len(tokens))
	last := survey(tokens[:first])
	for unit := range slices.Chunk(tokens[first:], unitTokens) {
		next := survey(unit)
		if last.closed(next) {
			blocks = append(blocks, last)
			last = next
			continue
		}
		last = last.join(next)
	}
	return append(blocks, last)
}
