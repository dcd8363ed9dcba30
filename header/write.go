package header

import (
	"valise/api"
	"valise/bits"
	"valise/code"
)

// trimmed tells a list without the zeros at its end, but with at least so many lengths.
func trimmed(lens []int, floor int) []int {
	n := len(lens)
	for n > floor && lens[n-1] == 0 {
		n--
	}
	out := make([]int, max(n, floor))
	copy(out, lens)
	return out
}

// uses tells how often each symbol of the small code is the Sym of a run.
func uses(runs []api.Run) []int {
	freq := make([]int, smallSymbols)
	for _, run := range runs {
		freq[run.Sym]++
	}
	return freq
}

// written tells how many lengths of the small code have to be written.
func written(clens []int) int {
	n := smallSymbols
	for n > leastSmall && clens[order[n-1]] == 0 {
		n--
	}
	return n
}

// size tells how many bits the header has.
func size(h api.Header) int {
	n := 5 + 5 + 4 + 3*written(h.Clens)
	for _, run := range h.Runs {
		n += h.Clens[run.Sym] + further[run.Sym]
	}
	return n
}

// spell puts a header into a writer of its own, which always has the room: so who joins it to another writer has one answer to ask for.
func spell(h api.Header) *bits.Writer {
	w := bits.NewWriter()
	n := written(h.Clens)
	w.Put(uint32(len(h.Lit)-leastLit), 5)
	w.Put(uint32(len(h.Dist)-leastDist), 5)
	w.Put(uint32(n-leastSmall), 4)
	for i := range n {
		w.Put(uint32(h.Clens[order[i]]), 3)
	}
	small, _ := code.NewEncoder(h.Clens)
	for _, run := range h.Runs {
		small.Put(w, run.Sym)
		w.Put(uint32(run.Count-least[run.Sym]), further[run.Sym])
	}
	return w
}
