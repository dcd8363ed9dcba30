package build_test

import (
	"slices"
	"testing"

	"valise/api"
)

func TestDepthsTies(t *testing.T) { // P6.3: of equal weights the one of the lower number
	depths(t, []int{1, 1, 1}, 2, 2, 1)
	depths(t, []int{1, 1, 1, 1}, 2, 2, 2, 2)
	depths(t, of(5, 1), 3, 3, 2, 2, 2)
	depths(t, of(6, 1), 3, 3, 3, 3, 2, 2)
	depths(t, of(7, 1), 3, 3, 3, 3, 3, 3, 2)
	depths(t, []int{2, 1, 1}, 1, 2, 2)
	depths(t, []int{1, 2, 1, 2}, 2, 2, 2, 2)
	depths(t, []int{2, 2, 1, 1}, 2, 2, 2, 2)
	depths(t, []int{4, 2, 1, 1}, 1, 2, 3, 3)
	depths(t, []int{3, 0, 3, 0, 3, 3, 3}, 3, 0, 3, 0, 2, 2, 2)
	depths(t, []int{1, 1, 2, 2, 4}, 3, 3, 2, 2, 2) // the two leaves of 2 ahead of the joined one, then the leaf of 4 ahead of the joined one
	depths(t, []int{1, 1, 2, 3, 3}, 3, 3, 2, 2, 2)
	depths(t, []int{2, 2, 2, 1, 1}, 2, 2, 2, 3, 3)
}

func TestDepthsOfGreatWeights(t *testing.T) { // P6.3: sums go beyond 2^32
	depths(t, []int{api.MaxFreq, api.MaxFreq, 1}, 2, 1, 2)
	depths(t, of(3, api.MaxFreq), 2, 2, 1)
	depths(t, []int{api.MaxFreq, api.MaxFreq - 1, 1, api.MaxFreq}, 2, 2, 2, 2)
	depths(t, of(256, api.MaxFreq), of(256, 8)...)
	depths(t, of(256, 1), of(256, 8)...)
	depths(t, of(288, api.MaxFreq), slices.Concat(of(64, 9), of(224, 8))...)
}

func TestDepthsGoDeep(t *testing.T) { // P6.3: no limit holds them
	for n := 2; n <= 47; n++ {
		want := make([]int, n)
		for i := range want {
			want[i] = n - max(i, 1)
		}
		depths(t, steep(n), want...)
		turned := steep(n)
		slices.Reverse(turned)
		slices.Reverse(want)
		depths(t, turned, want...)
	}
}
