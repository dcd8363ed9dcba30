package match_test

import (
	"testing"

	"valise/api"
)

func TestExampleOverlap(t *testing.T) { // example 1
	tells(t, "aaaaaaa", full(), "a", again(6, 1))
	expands(t, row("a", again(6, 1)), "aaaaaaa")
	expandFails(t, row("a", again(6, 1)), 6, api.ErrMatchLimit)
}

func TestExampleCopy(t *testing.T) { // example 2
	tells(t, "abcabcabd", full(), "abc", again(5, 3), "d")
}

func TestExamplePutOff(t *testing.T) { // example 3
	text := "xabcybcdeabcde"
	best(t, text, 9, full(), 3, 8)
	best(t, text, 10, full(), 4, 5)
	tells(t, text, full(), "xabcybcde", again(3, 8), "de")
	tells(t, text, lazy(), "xabcybcdea", again(4, 5))
}

func TestExampleNearest(t *testing.T) { // example 4
	best(t, "abcabcXabc", 7, full(), 3, 4)
	best(t, "abcabcXabc", 7, api.Effort{Window: 3, Chain: api.MaxChain}, 0, 0)
	best(t, "abcdabcabcd", 7, full(), 4, 7)
	best(t, "abcdabcabcd", 7, api.Effort{Window: api.Window, Chain: 1}, 3, 3)
}

func TestExampleExpand(t *testing.T) { // example 5
	expandFails(t, row(again(3, 1)), 9, api.ErrMatchFar)
	expandFails(t, row(again(2, 1)), 9, api.ErrMatchToken)
	expandFails(t, row(again(0, 1)), 9, api.ErrMatchToken)
	expandFails(t, row(api.Token{Len: 3, Dist: 1, Lit: 7}), 9, api.ErrMatchToken)
	expandFails(t, row("ab", again(3, 3)), 2, api.ErrMatchFar)
}
