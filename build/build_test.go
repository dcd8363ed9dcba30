package build_test

import (
	"math"
	"slices"
	"sync"
	"testing"

	"valise/api"
	"valise/build"
)

// of is n items, each v.
func of(n, v int) []int { return slices.Repeat([]int{v}, n) }

// steep is n frequencies of which each is the sum of the two ahead: the deepest joining for so many. At most 47 of them are within MaxFreq.
func steep(n int) []int {
	freq := []int{1, 1}
	for len(freq) < n {
		freq = append(freq, freq[len(freq)-1]+freq[len(freq)-2])
	}
	return freq[:n]
}

// rising is the frequencies 1, 2, .. n.
func rising(n int) []int {
	freq := make([]int, n)
	for i := range freq {
		freq[i] = i + 1
	}
	return freq
}

// with is a copy of a list in which one item is another.
func with(list []int, at, v int) []int {
	list = slices.Clone(list)
	list[at] = v
	return list
}

func depthsOf(t *testing.T, freq []int) []int {
	t.Helper()
	lens, e := build.Depths(freq)
	if e != api.OK || len(lens) != len(freq) {
		t.Fatalf("Depths(%v) = %v, %d", freq, lens, e)
	}
	return lens
}

func limitedOf(t *testing.T, freq []int, limit int) []int {
	t.Helper()
	lens, e := build.Limited(freq, limit)
	if e != api.OK || len(lens) != len(freq) {
		t.Fatalf("Limited(%v, %d) = %v, %d", freq, limit, lens, e)
	}
	return lens
}

func costOf(t *testing.T, freq, lens []int) int {
	t.Helper()
	cost, e := build.Cost(freq, lens)
	if e != api.OK {
		t.Fatalf("Cost(%v, %v) = %d, %d", freq, lens, cost, e)
	}
	return cost
}

func depths(t *testing.T, freq []int, want ...int) {
	t.Helper()
	if lens := depthsOf(t, freq); !slices.Equal(lens, want) {
		t.Errorf("Depths(%v) = %v, want %v", freq, lens, want)
	}
}

func limited(t *testing.T, freq []int, limit int, want ...int) {
	t.Helper()
	if lens := limitedOf(t, freq, limit); !slices.Equal(lens, want) {
		t.Errorf("Limited(%v, %d) = %v, want %v", freq, limit, lens, want)
	}
}

func costs(t *testing.T, freq, lens []int, want int) {
	t.Helper()
	if cost := costOf(t, freq, lens); cost != want {
		t.Errorf("Cost(%v, %v) = %d, want %d", freq, lens, cost, want)
	}
}

func depthsFails(t *testing.T, freq []int, want api.Errno) {
	t.Helper()
	if lens, e := build.Depths(freq); lens != nil || e != want {
		t.Errorf("Depths(%v) = %v, %d, want %d", freq, lens, e, want)
	}
}

func limitedFails(t *testing.T, freq []int, limit int, want api.Errno) {
	t.Helper()
	if lens, e := build.Limited(freq, limit); lens != nil || e != want {
		t.Errorf("Limited(%v, %d) = %v, %d, want %d", freq, limit, lens, e, want)
	}
}

func costFails(t *testing.T, freq, lens []int, want api.Errno) {
	t.Helper()
	if cost, e := build.Cost(freq, lens); cost != 0 || e != want {
		t.Errorf("Cost(%v, %v) = %d, %d, want %d", freq, lens, cost, e, want)
	}
}

func TestManySymbols(t *testing.T) { // P6.1: MaxSymbols of them, and one more
	for _, v := range []int{0, 1, api.MaxFreq} {
		depthsOf(t, of(288, v))
		limitedOf(t, of(288, v), 15)
		costOf(t, of(288, v), of(288, 9))
		for _, n := range []int{289, 290, 1000} {
			depthsFails(t, of(n, v), api.ErrArg)
			limitedFails(t, of(n, v), 15, api.ErrArg)
			costFails(t, of(n, v), of(n, 9), api.ErrArg)
		}
	}
}

func TestLimitOutside(t *testing.T) { // P6.1
	for _, limit := range []int{0, 16, -1, 17, 31, 32, 63, 64, 65, math.MinInt, math.MaxInt} {
		for _, freq := range [][]int{nil, {0, 0}, {7}, {1, 1}, {1, 2, 3}} {
			limitedFails(t, freq, limit, api.ErrArg)
		}
	}
	for limit := 1; limit <= 15; limit++ {
		limited(t, []int{1, 1}, limit, 1, 1)
		limited(t, nil, limit)
	}
}

func TestLensOutside(t *testing.T) { // P6.1
	for _, n := range []int{-1, 289, 290, -288, math.MinInt, math.MaxInt} {
		for at := range 3 {
			costFails(t, []int{1, 0, 2}, with([]int{1, 0, 1}, at, n), api.ErrArg)
		}
	}
	for _, n := range []int{0, 1, 15, 16, 287, 288} {
		costs(t, []int{1, 0, 2}, with([]int{1, 0, 1}, 0, n), n+2)
		costs(t, []int{1, 0, 2}, with([]int{1, 0, 1}, 1, n), 3)
	}
}

func TestLensOfAnotherNumber(t *testing.T) { // P6.1
	for n := range 6 {
		for m := range 6 {
			if n == m {
				costs(t, of(n, 2), of(m, 3), 6*n)
			} else {
				costFails(t, of(n, 2), of(m, 3), api.ErrArg)
			}
		}
	}
	costFails(t, of(288, 1), of(289, 1), api.ErrArg)
	costFails(t, of(288, 1), of(287, 1), api.ErrArg)
	costFails(t, of(289, 1), of(288, 1), api.ErrArg)
	costFails(t, nil, []int{0}, api.ErrArg)
}

func TestFreqOutside(t *testing.T) { // P6.1
	for _, f := range []int{-1, api.MaxFreq + 1, math.MinInt, math.MaxInt, math.MinInt32} {
		for _, freq := range [][]int{{4}, {1, 2, 3}, {0, 0, 0}, of(288, api.MaxFreq)} {
			for _, at := range []int{0, len(freq) / 2, len(freq) - 1} {
				wrong := with(freq, at, f)
				depthsFails(t, wrong, api.ErrBuildWeight)
				limitedFails(t, wrong, 15, api.ErrBuildWeight)
				costFails(t, wrong, of(len(freq), 1), api.ErrBuildWeight)
				costFails(t, wrong, of(len(freq), 0), api.ErrBuildWeight)
			}
		}
	}
	for _, f := range []int{1, api.MaxFreq - 1, api.MaxFreq} {
		depths(t, []int{f}, 1)
		depths(t, []int{f, 0, f}, 1, 0, 1)
		limited(t, []int{f, 0, f}, 1, 1, 0, 1)
	}
}

func TestNarrow(t *testing.T) { // P6.1: a limit that is just wide enough, and one symbol more
	for limit := 1; limit <= 8; limit++ {
		u := 1 << limit
		for _, freq := range [][]int{of(u, 1), of(u, api.MaxFreq), rising(u), slices.Concat(of(3, 0), rising(u), of(5, 0))} {
			limitedOf(t, freq, limit)
			limitedFails(t, append(slices.Clone(freq), 9), limit, api.ErrBuildNarrow)
			limitedOf(t, append(slices.Clone(freq), 0), limit)
			if limit > 1 {
				limitedFails(t, freq, limit-1, api.ErrBuildNarrow)
			}
		}
	}
	limitedFails(t, of(288, 1), 8, api.ErrBuildNarrow)
	for limit := 9; limit <= 15; limit++ {
		limitedOf(t, of(288, 1), limit)
	}
}

func TestWhichErrorFirst(t *testing.T) { // P6.1, P0.5
	depthsFails(t, of(289, -1), api.ErrArg)
	depthsFails(t, with(of(289, 1), 0, api.MaxFreq+1), api.ErrArg)
	limitedFails(t, of(289, -1), 1, api.ErrArg)
	limitedFails(t, of(289, 1), 1, api.ErrArg)
	limitedFails(t, of(289, -1), 0, api.ErrArg)
	limitedFails(t, []int{-1}, 0, api.ErrArg)
	limitedFails(t, []int{-1}, 16, api.ErrArg)
	limitedFails(t, []int{1, 1, 1}, 0, api.ErrArg)
	limitedFails(t, []int{1, 1, 1, -1}, 1, api.ErrBuildWeight)
	limitedFails(t, append(of(287, 1), api.MaxFreq+1), 3, api.ErrBuildWeight)
	limitedFails(t, []int{1, 1, 1, 0}, 1, api.ErrBuildNarrow)
	costFails(t, []int{-1, -1}, []int{1}, api.ErrArg)
	costFails(t, []int{-1}, []int{-1}, api.ErrArg)
	costFails(t, []int{-1, 1}, []int{1, 289}, api.ErrArg)
	costFails(t, of(289, -1), of(289, 1), api.ErrArg)
	costFails(t, []int{-1, 1}, []int{288, 0}, api.ErrBuildWeight)
}

func TestUnusedAndFew(t *testing.T) { // P6.2
	for n := range 289 {
		if n > 20 && n < 280 {
			continue
		}
		depths(t, of(n, 0), of(n, 0)...)
		limited(t, of(n, 0), 1, of(n, 0)...)
		limited(t, of(n, 0), 15, of(n, 0)...)
		for at := range n {
			for _, f := range []int{1, api.MaxFreq} {
				freq, lens := with(of(n, 0), at, f), with(of(n, 0), at, 1)
				depths(t, freq, lens...)
				limited(t, freq, 1, lens...)
				limited(t, freq, 15, lens...)
			}
		}
	}
}

func TestUnusedTakeNoPart(t *testing.T) { // P6.2: the used symbols' lengths are those that they have without the others
	freq := []int{5, 1, 1, 9, 2, 2, 40}
	spread := []int{0, 5, 0, 0, 1, 1, 0, 9, 2, 0, 2, 40, 0}
	for _, lists := range [][2][]int{
		{depthsOf(t, freq), depthsOf(t, spread)},
		{limitedOf(t, freq, 3), limitedOf(t, spread, 3)},
		{limitedOf(t, freq, 15), limitedOf(t, spread, 15)},
	} {
		var used []int
		for symbol, f := range spread {
			if f > 0 {
				used = append(used, lists[1][symbol])
			} else if lists[1][symbol] != 0 {
				t.Errorf("the unused symbol %d has the length %d", symbol, lists[1][symbol])
			}
		}
		if !slices.Equal(used, lists[0]) {
			t.Errorf("%v, and without the unused %v", used, lists[0])
		}
	}
}

func TestTwoUsed(t *testing.T) { // P6.3, P6.4
	for _, freq := range [][]int{{1, 1}, {1, 2}, {2, 1}, {1, api.MaxFreq}, {api.MaxFreq, 1}, {api.MaxFreq, api.MaxFreq}} {
		depths(t, freq, 1, 1)
		for limit := 1; limit <= 15; limit++ {
			limited(t, freq, limit, 1, 1)
		}
	}
}

func TestArgumentsStay(t *testing.T) { // P0.3
	for _, freq := range [][]int{{9, 3, 0, 7, 1, 1, 8}, {0, 4}, {5, -1}, of(289, 3), {3, 2, 1}} {
		for _, limit := range []int{1, 3, 15, 16} {
			room := append(slices.Clone(freq), 77, 78) // the room beyond the list's end
			lens := slices.Clone(room)
			ahead := slices.Clone(room)
			build.Depths(room[:len(freq)])
			build.Limited(room[:len(freq)], limit)
			build.Cost(room[:len(freq)], lens[:len(freq)])
			if !slices.Equal(room, ahead) || !slices.Equal(lens, ahead) {
				t.Errorf("%v became %v and %v", ahead, room, lens)
			}
		}
	}
}

func TestAnswersAreNew(t *testing.T) { // P0.3
	for _, freq := range [][]int{{9, 3, 0, 7, 1, 1, 8}, {0, 4}, {0, 0, 0}, {3, 2, 1}} {
		for _, call := range []func() []int{
			func() []int { return depthsOf(t, freq) },
			func() []int { return limitedOf(t, freq, 3) },
		} {
			kept, want, other := slices.Clone(freq), slices.Clone(call()), call()
			spoilt := call()
			for i := range spoilt[:cap(spoilt)] {
				spoilt[:cap(spoilt)][i] = -5
			}
			if !slices.Equal(freq, kept) || !slices.Equal(other, want) || !slices.Equal(call(), want) {
				t.Errorf("an answer of %v shares memory", kept)
			}
		}
	}
}

func TestNilAndEmpty(t *testing.T) { // P0.2
	for _, none := range [][]int{nil, {}} {
		depths(t, none)
		limited(t, none, 1)
		limitedFails(t, none, 0, api.ErrArg)
		costs(t, none, nil, 0)
		costs(t, none, []int{}, 0)
	}
}

func TestArgumentsAlone(t *testing.T) { // P6.10, P0.7
	freqs := [][]int{steep(40), of(288, 1), rising(200), {9, 3, 0, 7, 1, 1, 8}}
	var first [][]int
	for _, freq := range freqs {
		first = append(first, depthsOf(t, freq), limitedOf(t, freq, 9))
	}
	var wait sync.WaitGroup
	for range 4 {
		wait.Go(func() {
			for range 20 {
				for i, freq := range freqs {
					d, _ := build.Depths(freq)
					l, _ := build.Limited(freq, 9)
					cost, _ := build.Cost(freq, d)
					if more, _ := build.Cost(freq, l); !slices.Equal(d, first[2*i]) || !slices.Equal(l, first[2*i+1]) || cost > more {
						t.Errorf("another answer for %v", freq)
					}
					build.Limited(freq, 1)
				}
			}
		})
	}
	wait.Wait()
}
