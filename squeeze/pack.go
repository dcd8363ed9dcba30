package squeeze

import (
	"slices"

	"valise/api"
	"valise/bits"
	"valise/block"
	"valise/deflate"
	"valise/match"
)

// improved tells the shortest of a packed text and those of the tokens that each round finds by the prices of the round ahead of it.
func improved(packed, data []byte, rounds int) []byte {
	effort, _ := deflate.Effort(api.MaxLevel)
	tokens, _ := match.Tokens(data, effort)
	t := newText(data, api.Window)
	for range rounds {
		lit, dist, _ := block.Trees(tokens)
		next := t.cheapest(learned(lit, dist))
		if slices.Equal(next, tokens) { // so are their prices, and no later round finds others
			break
		}
		tokens = next
		if other := textOf(tokens, data); len(other) < len(packed) {
			packed = other
		}
	}
	return packed
}

// textOf tells data packed as blocks of tokens that say it.
func textOf(tokens []api.Token, data []byte) []byte {
	counts, _ := deflate.Split(tokens)
	w := bits.NewWriter()
	for i, n := range counts {
		part, size := tokens[:n], said(tokens[:n])
		sizes, _ := block.Measure(part, w.Len())
		block.Write(w, part, data[:size], block.Choose(sizes), i == len(counts)-1)
		tokens, data = tokens[n:], data[size:]
	}
	return w.Bytes()
}

// said tells how many bytes tokens say.
func said(tokens []api.Token) int {
	n := 0
	for _, token := range tokens {
		n += max(token.Len, 1)
	}
	return n
}
