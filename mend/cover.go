package mend

// cover knows which places of some bytes extents have.
type cover struct {
	past []int32 // of a place that an extent has: a place behind it up to which all are had too; of any other: 0
}

// newCover is that of so many bytes of which no extent has any.
func newCover(n int) cover { return cover{make([]int32, n+1)} } // the place behind them stays free, so that every search ends

// add takes an extent in, and tells whether it has no byte in common with those that are in.
func (c cover) add(from, to int) bool {
	fresh := 0
	for at := c.free(from); at < to; at = c.free(at + 1) {
		c.past[at] = int32(to)
		fresh++
	}
	return fresh == to-from
}

// free tells the first place from one on that no extent has. Of the places that it comes by each second one is led further, for there may be thousands of extents over the same bytes.
func (c cover) free(at int) int {
	for c.past[at] != 0 {
		next := int(c.past[at])
		if c.past[next] != 0 {
			c.past[at] = c.past[next]
		}
		at = next
	}
	return at
}
