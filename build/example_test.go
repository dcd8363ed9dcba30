package build_test

import (
	"testing"

	"valise/api"
)

func TestExampleDepths(t *testing.T) { // example 1
	freq := []int{5, 9, 12, 13, 16, 45}
	depths(t, freq, 4, 4, 3, 3, 3, 1)
	costs(t, freq, []int{4, 4, 3, 3, 3, 1}, 224)
}

func TestExampleEqualAndFew(t *testing.T) { // example 2
	depths(t, []int{1, 1, 2, 2}, 2, 2, 2, 2)
	depths(t, []int{1, 1, 2}, 2, 2, 1)
	depths(t, []int{0, 7, 0}, 0, 1, 0)
	depths(t, []int{})
}

func TestExampleLimited(t *testing.T) { // example 3
	freq := []int{1, 1, 2, 4, 8}
	limited(t, freq, 3, 3, 3, 3, 3, 1)
	costs(t, freq, []int{3, 3, 3, 3, 1}, 32)
	limited(t, freq, 4, 4, 4, 3, 2, 1)
	depths(t, freq, 4, 4, 3, 2, 1)
	costs(t, freq, []int{4, 4, 3, 2, 1}, 30)
}

func TestExampleNarrow(t *testing.T) { // example 4
	limitedFails(t, []int{1, 1, 1}, 1, api.ErrBuildNarrow)
	limited(t, []int{1, 0, 1}, 1, 1, 0, 1)
	limited(t, []int{3}, 1, 1)
	limitedFails(t, []int{1, -1, 1, 1}, 16, api.ErrArg)
	limitedFails(t, []int{1, -1, 1, 1}, 1, api.ErrBuildWeight)
}

func TestExampleCost(t *testing.T) { // example 5
	costs(t, []int{3, 0, 5}, []int{1, 7, 2}, 13)
	costFails(t, []int{3, 5}, []int{1}, api.ErrArg)
	costFails(t, []int{3, -1}, []int{1, 289}, api.ErrArg)
	costFails(t, []int{3, -1}, []int{1, 288}, api.ErrBuildWeight)
}
