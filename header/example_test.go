package header_test

import (
	"slices"
	"strings"
	"testing"

	"valise/api"
)

func TestExampleRuns(t *testing.T) { // example 1
	runs(t, slices.Concat(of(11, 0), of(5, 5), of(2, 0), []int{5}), 18, 11, 5, 1, 16, 4, 0, 1, 0, 1, 5, 1)
	runs(t, of(3, 7), 7, 1, 7, 1, 7, 1)
	runs(t, of(10, 7), 7, 1, 16, 6, 16, 3)
	runs(t, of(139, 0), 18, 138, 0, 1)
	runsFails(t, []int{16})
}

func TestExampleExpand(t *testing.T) { // example 2
	expands(t, run(2, 1, 16, 3, 17, 3), 2, 2, 2, 2, 0, 0, 0)
	expands(t, run(0, 1, 16, 3), 0, 0, 0, 0)
	expandFails(t, run(16, 3), api.ErrHeadRepeat)
	for _, list := range [][]api.Run{run(5, 2), run(16, 7), run(18, 10), run(19, 1)} {
		expandFails(t, list, api.ErrHeadRun)
	}
}

func TestExampleTwoSymbols(t *testing.T) { // example 3
	same(t, made(t, lits(97, 1, 256, 1), nil), api.Header{
		Lit:   two(),
		Dist:  []int{0},
		Clens: []int{2, 2, 0, 0, 0, 0, 0, 0, 0, 0, 0, 0, 0, 0, 0, 0, 0, 0, 1},
		Runs:  run(18, 97, 1, 1, 18, 138, 18, 20, 1, 1, 0, 1),
		Size:  98,
	})
	text := writtenOf(t, two(), nil)
	if text[10:14] != row(18-4, 4) || len(text) != 98 {
		t.Errorf("%s", text)
	}
}

func TestExampleEndAlone(t *testing.T) { // example 4
	same(t, made(t, lits(256, 1), []int{1}), api.Header{
		Lit:   end(),
		Dist:  []int{1},
		Clens: []int{0, 1, 0, 0, 0, 0, 0, 0, 0, 0, 0, 0, 0, 0, 0, 0, 0, 0, 1},
		Runs:  run(18, 138, 18, 118, 1, 1, 1, 1),
		Size:  86,
	})
}

func TestExampleErrors(t *testing.T) { // example 5
	makeFails(t, of(286, 8), nil, api.ErrHeadLit)
	makeFails(t, nil, nil, api.ErrHeadLit)
	makeFails(t, two(), []int{2}, api.ErrHeadDist)
	readFails(t, strings.Repeat("1", 13), api.ErrHeadEnd)
	readFails(t, strings.Repeat("0", 13), api.ErrHeadEnd)
	for n := 14; n < 40; n++ {
		readFails(t, strings.Repeat("1", n), api.ErrHeadCounts)
	}
}
