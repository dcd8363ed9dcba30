package header

import (
	"valise/api"
	"valise/bits"
	"valise/code"
)

// counts says how many lengths there are of each kind.
type counts struct {
	lit, dist, small int
}

// takeCounts takes the three numbers out.
func takeCounts(r *bits.Reader) (counts, api.Errno) {
	v, e := r.Take(5 + 5 + 4)
	if e != api.OK {
		return counts{}, api.ErrHeadEnd
	}
	c := counts{lit: leastLit + int(v&31), dist: leastDist + int(v>>5&31), small: leastSmall + int(v>>10)}
	if c.lit > mostLit || c.dist > mostDist {
		return counts{}, api.ErrHeadCounts
	}
	return c, api.OK
}

// takeSmall takes the first n lengths of the small code out, and tells its decoder.
func takeSmall(r *bits.Reader, n int) (*code.Decoder, api.Errno) {
	clens := make([]int, smallSymbols)
	for i := range n {
		v, e := r.Take(3)
		if e != api.OK {
			return nil, api.ErrHeadEnd
		}
		clens[order[i]] = int(v)
	}
	if shape, _ := code.Check(clens); shape != api.ShapeComplete {
		return nil, api.ErrHeadMeta
	}
	small, _ := code.NewDecoder(clens)
	return small, api.OK
}

// takeLengths takes runs out till there are as many lengths as are wanted.
func takeLengths(r *bits.Reader, small *code.Decoder, want int) ([]int, api.Errno) {
	lens := make([]int, 0, want)
	for len(lens) < want {
		run, e := takeRun(r, small)
		if e != api.OK {
			return nil, e
		}
		if run.Sym == repeat && len(lens) == 0 {
			return nil, api.ErrHeadRepeat
		}
		if len(lens)+run.Count > want {
			return nil, api.ErrHeadOver
		}
		lens = lay(lens, run)
	}
	return lens, api.OK
}

// takeRun takes one run out. The small code is complete, so bits that are no code word are bits that end.
func takeRun(r *bits.Reader, small *code.Decoder) (api.Run, api.Errno) {
	sym, e := small.Next(r)
	if e != api.OK {
		return api.Run{}, api.ErrHeadEnd
	}
	above, e := r.Take(further[sym])
	if e != api.OK {
		return api.Run{}, api.ErrHeadEnd
	}
	return api.Run{Sym: sym, Count: least[sym] + int(above)}, api.OK
}
