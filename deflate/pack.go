package deflate

import (
	"sync"

	"valise/api"
	"valise/bits"
	"valise/block"
	"valise/match"
)

const (
	startBits = 3             // whether a block is the last one, and its kind
	evenBit   = 8 - startBits // a block that begins here has its start end at the border of a byte
)

// part is what goes into one block: tokens, and the bytes that they say.
type part struct {
	tokens []api.Token
	raw    []byte
}

// pack tells data as blocks of the tokens that the effort finds.
func pack(data []byte, effort api.Effort) []byte {
	tokens, _ := match.Tokens(data, effort)
	parts := parted(tokens, data)
	w := bits.NewWriter()
	for i, sizes := range measured(parts) {
		sizes.Stored += missing(w.Len())
		block.Write(w, parts[i].tokens, parts[i].raw, block.Choose(sizes), i == len(parts)-1)
	}
	return w.Bytes()
}

// parted tells what goes into each block.
func parted(tokens []api.Token, data []byte) []part {
	var parts []part
	for _, s := range split(tokens) {
		parts = append(parts, part{tokens[:s.tokens], data[:s.bytes]})
		tokens, data = tokens[s.tokens:], data[s.bytes:]
	}
	return parts
}

// measured tells the sizes of each block as if it began at a bit where it needs no filling up if it is stored: nothing else of them hangs on that bit, so no block waits for those ahead of it.
func measured(parts []part) []api.Sizes {
	sizes := make([]api.Sizes, len(parts))
	var workers sync.WaitGroup
	for i, p := range parts {
		workers.Go(func() { sizes[i], _ = block.Measure(p.tokens, evenBit) })
	}
	workers.Wait()
	return sizes
}

// missing tells how many bits a stored block that begins at the bit at fills up to the border of a byte.
func missing(at int) int { return (8 - (at+startBits)%8) % 8 }
