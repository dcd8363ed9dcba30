package header_test

import (
	"math"
	"slices"
	"testing"

	"valise/api"
	"valise/build"
	"valise/code"
)

// makes asks for Lit and Dist, and that the rest is what P7.4 says of them.
func makes(t *testing.T, lit, dist, wantLit, wantDist []int) {
	t.Helper()
	h := made(t, lit, dist)
	if !slices.Equal(h.Lit, wantLit) || !slices.Equal(h.Dist, wantDist) {
		t.Errorf("Make(%v, %v) has %v, %v, want %v, %v", lit, dist, h.Lit, h.Dist, wantLit, wantDist)
	}
	same(t, h, ofLists(t, wantLit, wantDist))
}

// ofLists is the header of two lists that are as they are written, by the chapter's words.
func ofLists(t *testing.T, lit, dist []int) api.Header {
	t.Helper()
	h := api.Header{Lit: lit, Dist: dist, Runs: plainRuns(slices.Concat(lit, dist)), Size: 14}
	freq := of(19, 0)
	for _, r := range h.Runs {
		freq[r.Sym]++
	}
	var e api.Errno
	if h.Clens, e = build.Limited(freq, 7); e != api.OK {
		t.Fatalf("Limited(%v, 7) = %v, %d", freq, h.Clens, e)
	}
	h.Size += 3 * len(plainSmall(h.Clens))
	for _, r := range h.Runs {
		h.Size += h.Clens[r.Sym] + map[int]int{16: 2, 17: 3, 18: 7}[r.Sym]
	}
	return h
}

func TestTooManyLengths(t *testing.T) { // P7.4: 286 and 30, and one more
	makes(t, append(two(), of(29, 0)...), of(30, 0), two(), []int{0})
	makes(t, wide(), far(), wide(), far())
	for _, n := range []int{287, 288, 289, 1000} {
		for _, v := range []int{0, 8, 9} {
			makeFails(t, append(wide(), of(n-286, v)...), nil, api.ErrArg)
		}
		makeFails(t, append(two(), of(n-257, 0)...), nil, api.ErrArg)
	}
	for _, n := range []int{31, 32, 33, 1000} {
		for _, v := range []int{0, 1, 5} {
			makeFails(t, two(), of(n, v), api.ErrArg)
		}
	}
}

func TestLengthsOfMakeOutside(t *testing.T) { // P7.4
	for _, v := range []int{-1, 16, 18, math.MinInt, math.MaxInt} {
		for _, at := range []int{0, 97, 255, 256} {
			makeFails(t, with(two(), at, v), nil, api.ErrArg)
		}
		makeFails(t, with(wide(), 285, v), far(), api.ErrArg)
		makeFails(t, []int{v}, nil, api.ErrArg)
		for at := range 30 {
			makeFails(t, two(), with(far(), at, v), api.ErrArg)
		}
		makeFails(t, two(), []int{v}, api.ErrArg)
	}
}

func TestFewLiterals(t *testing.T) { // P7.4: what is not there is 0, so the symbol 256 is too
	for n := range 257 {
		makeFails(t, two()[:n], nil, api.ErrHeadLit)
		makeFails(t, of(n, 0), nil, api.ErrHeadLit)
		if n >= 2 {
			makeFails(t, append([]int{1, 1}, of(n-2, 0)...), nil, api.ErrHeadLit)
		}
	}
	makeFails(t, of(256, 8), nil, api.ErrHeadLit)
	makes(t, two(), nil, two(), []int{0})
}

func TestBlockEndWithoutLength(t *testing.T) { // P7.4: however complete the code is
	makeFails(t, lits(0, 1, 1, 1), nil, api.ErrHeadLit)
	makeFails(t, lits(0, 1), nil, api.ErrHeadLit)
	makeFails(t, append(of(256, 8), 0), nil, api.ErrHeadLit)
	makeFails(t, append(lits(3, 1), 1), nil, api.ErrHeadLit)
	makeFails(t, append(lits(), of(29, 0)...), nil, api.ErrHeadLit)
	makes(t, append(lits(256, 1), 1), nil, append(lits(256, 1), 1), []int{0})
}

func TestShapesOfLiterals(t *testing.T) { // P7.4
	for _, c := range []struct {
		lit   []int
		shape int
		e     api.Errno
	}{
		{lits(), api.ShapeEmpty, api.ErrHeadLit},
		{lits(256, 1), api.ShapeSingle, api.OK},
		{lits(256, 2), api.ShapeUnder, api.ErrHeadLit},
		{lits(256, 15), api.ShapeUnder, api.ErrHeadLit},
		{lits(0, 2, 256, 1), api.ShapeUnder, api.ErrHeadLit},
		{lits(0, 1, 1, 1, 256, 1), api.ShapeOver, api.ErrHeadLit},
		{lits(0, 1, 1, 1, 256, 15), api.ShapeOver, api.ErrHeadLit},
		{lits(0, 1, 256, 1), api.ShapeComplete, api.OK},
		{lits(0, 2, 255, 2, 256, 1), api.ShapeComplete, api.OK},
		{of(286, 8), api.ShapeOver, api.ErrHeadLit},
		{of(286, 9), api.ShapeUnder, api.ErrHeadLit},
		{with(wide(), 285, 8), api.ShapeOver, api.ErrHeadLit},
		{with(wide(), 285, 10), api.ShapeUnder, api.ErrHeadLit},
		{wide(), api.ShapeComplete, api.OK},
	} {
		if shape, _ := code.Check(c.lit); shape != c.shape {
			t.Errorf("the shape of %v is %d", c.lit, shape)
		}
		if c.e != api.OK {
			makeFails(t, c.lit, nil, c.e)
			makeFails(t, c.lit, []int{2}, c.e)
		} else {
			makes(t, c.lit, nil, c.lit, []int{0})
		}
	}
}

func TestShapesOfDistances(t *testing.T) { // P7.4
	for _, c := range []struct {
		dist  []int
		shape int
		e     api.Errno
	}{
		{nil, api.ShapeEmpty, api.OK},
		{[]int{0}, api.ShapeEmpty, api.OK},
		{of(30, 0), api.ShapeEmpty, api.OK},
		{[]int{1}, api.ShapeSingle, api.OK},
		{append(of(29, 0), 1), api.ShapeSingle, api.OK},
		{[]int{2}, api.ShapeUnder, api.ErrHeadDist},
		{[]int{0, 15}, api.ShapeUnder, api.ErrHeadDist},
		{[]int{1, 2}, api.ShapeUnder, api.ErrHeadDist},
		{of(30, 5), api.ShapeUnder, api.ErrHeadDist},
		{[]int{1, 1, 1}, api.ShapeOver, api.ErrHeadDist},
		{[]int{1, 1, 15}, api.ShapeOver, api.ErrHeadDist},
		{of(30, 4), api.ShapeOver, api.ErrHeadDist},
		{[]int{1, 1}, api.ShapeComplete, api.OK},
		{[]int{2, 0, 1, 2}, api.ShapeComplete, api.OK},
		{far(), api.ShapeComplete, api.OK},
	} {
		if shape, _ := code.Check(c.dist); shape != c.shape {
			t.Errorf("the shape of %v is %d", c.dist, shape)
		}
		for _, lit := range [][]int{two(), end(), wide()} {
			if c.e != api.OK {
				makeFails(t, lit, c.dist, c.e)
			} else if h := made(t, lit, c.dist); !slices.Equal(h.Lit, lit) {
				t.Errorf("Make(%v, %v) = %v", lit, c.dist, h)
			}
		}
	}
}

func TestWhichErrorOfMakeFirst(t *testing.T) { // P7.4
	makeFails(t, of(287, 8), []int{2}, api.ErrArg)
	makeFails(t, nil, of(31, 0), api.ErrArg)
	makeFails(t, nil, []int{16}, api.ErrArg)
	makeFails(t, of(286, 8), []int{2, -1}, api.ErrArg)
	makeFails(t, []int{-1}, []int{2}, api.ErrArg)
	makeFails(t, []int{1}, []int{2}, api.ErrHeadLit)
	makeFails(t, of(286, 8), of(30, 1), api.ErrHeadLit)
	makeFails(t, nil, []int{1, 1, 1}, api.ErrHeadLit)
}

func TestZerosAtTheEnd(t *testing.T) { // P7.4: they are left out, down to 257 lengths and to one
	for n := range 30 {
		makes(t, append(two(), of(n, 0)...), nil, two(), []int{0})
		makes(t, two(), of(n, 0), two(), []int{0})
		makes(t, two(), append([]int{1}, of(n, 0)...), two(), []int{1})
		makes(t, two(), append(of(n, 0), 1), two(), append(of(n, 0), 1))
	}
	for n := 1; n < 30; n++ {
		lit := append(lits(256, 1), append(of(n-1, 0), 1)...)
		makes(t, append(slices.Clone(lit), of(29-n, 0)...), nil, lit, []int{0})
	}
	makes(t, two(), []int{1, 0, 0, 1, 0}, two(), []int{1, 0, 0, 1})
}

func TestRunIntoDistances(t *testing.T) { // P7.4: a run begins in the one list and ends in the other
	h := made(t, lits(0, 2, 1, 2, 256, 1), []int{1, 0, 0, 0, 0, 1}) // lengths behind 256 are none: 1 1 is no run
	if !slices.Equal(h.Runs, run(2, 1, 2, 1, 18, 138, 18, 116, 1, 1, 1, 1, 17, 4, 1, 1)) {
		t.Errorf("%v", h.Runs)
	}
	lit := append(lits(0, 1, 254, 3, 255, 3, 256, 3), 3) // 1/2 and four times 1/8
	h = made(t, lit, []int{3, 3, 3, 3, 3, 3, 3, 3})
	if !slices.Equal(h.Runs, run(1, 1, 18, 138, 18, 115, 3, 1, 16, 6, 16, 5)) {
		t.Errorf("%v", h.Runs)
	}
	lit = lits(1, 1, 256, 1)
	h = made(t, lit, append(of(11, 0), 1))
	if !slices.Equal(h.Runs, run(0, 1, 1, 1, 18, 138, 18, 116, 1, 1, 18, 11, 1, 1)) {
		t.Errorf("%v", h.Runs)
	}
	same(t, h, ofLists(t, lit, append(of(11, 0), 1)))
}

func TestSmallCode(t *testing.T) { // P7.4: 19 lengths, complete, none above 7
	for _, c := range []struct{ lit, dist []int }{{two(), nil}, {end(), []int{1}}, {wide(), far()}, {steep(), nil}, {steep(), far()}} {
		h := made(t, c.lit, c.dist)
		shape, e := code.Check(h.Clens)
		if len(h.Clens) != 19 || shape != api.ShapeComplete || e != api.OK || slices.Max(h.Clens) > 7 {
			t.Errorf("Make(%v, %v) has the small code %v", c.lit, c.dist, h.Clens)
		}
	}
	makes(t, steep(), nil, steep(), []int{0})
	freq := of(19, 0)
	for _, r := range runsOf(t, append(steep(), 0)) {
		freq[r.Sym]++
	}
	if free, _ := build.Depths(freq); slices.Max(free) <= 7 {
		t.Errorf("the limit is not met: %v", free)
	}
}

// steep is 257 lengths of literals whose runs are of ten kinds, each about as often as all that are seldomer together: without a limit the small code would have a word of more than 7 bits.
func steep() []int {
	lens := of(125, 0)
	for _, v := range slices.Concat(of(32, 10), of(20, 8)) {
		lens = append(lens, v, 0)
	}
	for _, v := range slices.Concat(of(7, 6), of(4, 5), of(1, 4)) {
		lens = append(lens, 7, v)
	}
	return append(lens, 4, 4, 3, 2)
}

func TestSizeIsWhatIsPut(t *testing.T) { // P7.6
	for _, lit := range [][]int{two(), end(), wide(), append(two(), of(29, 0)...), lits(0, 2, 1, 2, 256, 1), append(lits(256, 1), 1)} {
		for _, dist := range [][]int{nil, {0}, {1}, {1, 1}, {1, 2, 2, 0}, far(), append(of(29, 0), 1)} {
			if n, h := len(writtenOf(t, lit, dist)), made(t, lit, dist); n != h.Size {
				t.Errorf("Write(%v, %v) puts %d bits, want %d", lit, dist, n, h.Size)
			}
		}
	}
}
