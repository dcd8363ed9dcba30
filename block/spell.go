package block

import (
	"valise/api"
	"valise/bits"
	"valise/code"
	"valise/header"
)

// start makes a writer for one block, with the bits that each begins with. It always has the room: so who joins it to another writer has one answer to ask for.
func start(kind int, final bool) *bits.Writer {
	w := bits.NewWriter()
	last := uint32(0)
	if final {
		last = 1
	}
	w.Put(last, 1)
	w.Put(uint32(kind), 2)
	return w
}

// putRaw puts what a stored block that begins at the bit at has behind its start. The writer's own borders are not those of the text that the block goes into.
func putRaw(w *bits.Writer, raw []byte, at int) {
	w.Put(0, missing(at))
	w.Put(uint32(len(raw)), 16)
	w.Put(uint32(api.MaxRaw-len(raw)), 16)
	whole := bits.NewWriter()
	whole.Raw(raw)
	w.Join(whole)
}

// putDynamic puts what a dynamic block has behind its start.
func putDynamic(w *bits.Writer, tokens []api.Token) {
	lens := trees(count(tokens))
	header.Write(w, lens.lit, lens.dist)
	putBody(w, tokens, lens)
}

// putBody puts the tokens and the block's end.
func putBody(w *bits.Writer, tokens []api.Token, lens pair) {
	lit, _ := code.NewEncoder(lens.lit)
	dist, _ := code.NewEncoder(lens.dist)
	for _, token := range tokens {
		if token.Len == 0 {
			lit.Put(w, int(token.Lit))
			continue
		}
		symbol, n, extra, _ := LengthSymbol(token.Len)
		lit.Put(w, symbol)
		w.Put(uint32(extra), n)
		symbol, n, extra, _ = DistSymbol(token.Dist)
		dist.Put(w, symbol)
		w.Put(uint32(extra), n)
	}
	lit.Put(w, blockEnd)
}
