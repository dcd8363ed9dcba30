package build_test

import (
	"slices"
	"testing"

	"valise/api"
)

func TestLimitedTies(t *testing.T) { // P6.4: leaves ahead of packages, equal leaves by their symbols
	limited(t, []int{1, 1, 1}, 2, 2, 2, 1)
	limited(t, []int{1, 1, 2, 2}, 2, 2, 2, 2, 2)
	limited(t, []int{1, 1, 2, 2}, 3, 2, 2, 2, 2)
	limited(t, []int{2, 2, 1, 1}, 3, 2, 2, 2, 2)
	limited(t, of(5, 1), 3, 3, 3, 2, 2, 2)
	limited(t, of(6, 7), 3, 3, 3, 3, 3, 2, 2)
	limited(t, []int{1, 1, 2, 2, 4}, 15, 3, 3, 2, 2, 2)
	limited(t, []int{2, 9, 2, 9, 2}, 15, 4, 2, 4, 1, 3)
	limited(t, []int{0, 3, 1, 0, 1, 3}, 15, 0, 2, 3, 0, 3, 1)
}

func TestLimitedBeyondTheLimit(t *testing.T) { // P6.4, P6.6: frequencies whose depths go beyond it
	limited(t, []int{5, 9, 12, 13, 16, 45}, 3, 3, 3, 3, 3, 2, 2)
	limited(t, []int{5, 9, 12, 13, 16, 45}, 4, 4, 4, 3, 3, 3, 1)
	limited(t, []int{8, 4, 2, 1, 1}, 3, 1, 3, 3, 3, 3)
	limited(t, []int{1, 1, 1, api.MaxFreq}, 2, 2, 2, 2, 2)
	limited(t, []int{1, 1, 1, api.MaxFreq}, 3, 3, 3, 2, 1)
	limited(t, steep(16), 15, 15, 15, 14, 13, 12, 11, 10, 9, 8, 7, 6, 5, 4, 3, 2, 1)
	if lens := limitedOf(t, steep(17), 15); slices.Max(lens) != 15 {
		t.Errorf("Limited of 17 steep ones = %v", lens)
	}
	for limit := 6; limit <= 15; limit++ {
		if lens := limitedOf(t, steep(47), limit); slices.Max(lens) != limit {
			t.Errorf("Limited of 47 steep ones, %d = %v", limit, lens)
		}
	}
}

func TestLimitedJustWideEnough(t *testing.T) { // P6.4, P6.6: every word has the limit's length
	for limit := 1; limit <= 8; limit++ {
		u := 1 << limit
		limited(t, of(u, 1), limit, of(u, limit)...)
		limited(t, of(u, api.MaxFreq), limit, of(u, limit)...)
		limited(t, rising(u), limit, of(u, limit)...)
		if u <= 32 {
			limited(t, steep(u), limit, of(u, limit)...)
		}
	}
}

func TestLimitedAtEveryNumber(t *testing.T) { // P6.1, P6.6: with each limit that has words enough
	for u := 2; u <= 288; u++ {
		for limit := 1; limit <= 15; limit++ {
			if u > 1<<limit {
				limitedFails(t, of(u, 3), limit, api.ErrBuildNarrow)
				continue
			}
			keepsRules(t, of(u, 3), limitedOf(t, of(u, 3), limit))
			lens := limitedOf(t, rising(u), limit)
			keepsRules(t, rising(u), lens)
			if slices.Max(lens) > limit {
				t.Errorf("%d rising ones, the limit %d: %v", u, limit, lens)
			}
		}
	}
}

func TestLimitedWhereDepthsFit(t *testing.T) { // P6.8
	for _, freq := range [][]int{{5, 9, 12, 13, 16, 45}, steep(10), rising(288), of(288, 4), {1, 0, 1, 0, 3}, {1, 1, 2, 3, 3}} {
		depths := depthsOf(t, freq)
		least := costOf(t, freq, depths)
		for limit := slices.Max(depths); limit <= 15; limit++ {
			costs(t, freq, limitedOf(t, freq, limit), least)
		}
		for limit := slices.Max(depths) - 1; usedOf(freq) <= 1<<limit; limit-- {
			more := costOf(t, freq, limitedOf(t, freq, limit))
			if more < least {
				t.Errorf("%v costs %d with the limit %d, %d with a higher one", freq, more, limit, least)
			}
			least = more
		}
	}
}
