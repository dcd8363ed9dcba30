package build_test

import (
	"testing"

	"valise/api"
)

func TestCost(t *testing.T) { // P6.5
	costs(t, []int{7}, []int{3}, 21)
	costs(t, []int{1, 10, 100}, []int{3, 2, 1}, 123)
	costs(t, []int{1, 10, 100}, []int{1, 1, 1}, 111) // lengths that keep no rule cost what they cost
	costs(t, []int{0, 0}, []int{5, 288}, 0)
	costs(t, of(288, 1), rising(288), 288*289/2)
	costs(t, rising(288), of(288, 2), 288*289)
}

func TestCostOfLengthZero(t *testing.T) { // P6.5: a used symbol without a word adds nothing
	costs(t, []int{9}, []int{0}, 0)
	costs(t, []int{9, 4, api.MaxFreq}, []int{0, 3, 0}, 12)
}

func TestCostOfTheGreatest(t *testing.T) { // P6.5
	costs(t, []int{api.MaxFreq}, []int{288}, 288<<32)
	costs(t, of(288, api.MaxFreq), of(288, 288), 288*288<<32)
	if cost := costOf(t, of(288, api.MaxFreq), of(288, 288)); cost >= 1<<50 {
		t.Errorf("the greatest cost is %d", cost)
	}
}
