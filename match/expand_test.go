package match_test

import (
	"slices"
	"strings"
	"testing"

	"valise/api"
)

func TestExpandLimits(t *testing.T) { // P9.4, P0.5: a limit outside its domain is ahead of all tokens
	for _, limit := range []int{-1 << 63, -api.MaxCapacity, -1, api.MaxCapacity + 1, 1 << 32, 1<<63 - 1} {
		for _, tokens := range [][]api.Token{nil, row("a"), row(again(2, 1)), row(again(3, 1)), row("a", again(3, 1))} {
			expandFails(t, tokens, limit, api.ErrArg)
		}
	}
	expands(t, nil, "")
	expands(t, row("a"), "a")
	expands(t, row("\x00\xff"), "\x00\xff")
}

func TestExpandCopies(t *testing.T) { // P9.4: a copy may read what it has put itself
	expands(t, row("abcdef", again(3, 6)), "abcdefabc")
	expands(t, row("abcdef", again(3, 4)), "abcdefcde")
	expands(t, row("abcdef", again(3, 3)), "abcdefdef")
	expands(t, row("abcdef", again(3, 2)), "abcdefefe")
	expands(t, row("abcdef", again(3, 1)), "abcdeffff")
	expands(t, row("abc", again(258, 3), again(3, 261)), strings.Repeat("abc", 88))
	for length := 3; length <= 258; length++ {
		for _, dist := range []int{1, 2, 3, 5, 7, 100} {
			whole := anyBytes(int64(dist), dist)
			tokens := row(whole, again(length, dist))
			whole = strings.Repeat(whole, length/dist+2)[:dist+length]
			expands(t, tokens, whole)
		}
	}
}

func TestExpandFarBack(t *testing.T) { // P9.4: as far as the window, but not ahead of the text's beginning
	whole := anyBytes(9, 33000)
	for _, dist := range []int{1, 258, 32767, 32768} {
		for _, size := range []int{dist - 1, dist, dist + 1, dist + 200} {
			tokens := row(whole[:size], again(100, dist))
			if size < dist {
				expandFails(t, tokens, api.MaxCapacity, api.ErrMatchFar)
				continue
			}
			text := []byte(whole[:size])
			for range 100 {
				text = append(text, text[len(text)-dist])
			}
			expands(t, tokens, string(text))
		}
	}
}

// unsound is tokens that may not be.
func unsound() []api.Token {
	const least, most = -1 << 63, 1<<63 - 1
	tokens := []api.Token{{Len: 3, Dist: 1, Lit: 1}, {Len: 258, Dist: 1, Lit: 255}, {Len: 3, Dist: 1, Lit: 128}, {Len: 0, Dist: 1, Lit: 7}}
	for _, length := range []int{least, -258, -3, -1, 1, 2, 259, 1 << 32, 1<<32 + 3, most} {
		for _, dist := range []int{0, 1, 32768} {
			tokens = append(tokens, again(length, dist))
		}
	}
	for _, dist := range []int{least, -32768, -1, 32769, 1 << 32, 1<<32 + 1, most} {
		for _, length := range []int{0, 3, 258} {
			tokens = append(tokens, again(length, dist))
		}
	}
	return append(tokens, again(3, 0), again(258, 0))
}

func TestExpandUnsound(t *testing.T) { // P9.4: ahead of a distance that is too far and of the limit
	for _, token := range unsound() {
		for _, limit := range []int{0, 2, 5, api.MaxCapacity} {
			expandFails(t, row(token), limit, api.ErrMatchToken)
			if limit >= 2 {
				expandFails(t, row("ab", token, "c"), limit, api.ErrMatchToken)
				expandFails(t, row("ab", token, again(3, 9)), limit, api.ErrMatchToken)
			}
		}
	}
}

func TestExpandOrder(t *testing.T) { // P9.4: of one token the first error, of several the first token's
	expandFails(t, row("ab", again(3, 3)), 9, api.ErrMatchFar)
	expandFails(t, row("ab", again(3, 3)), 2, api.ErrMatchFar)
	expandFails(t, row("ab", again(3, 2)), 2, api.ErrMatchLimit)
	expandFails(t, row("ab", again(3, 2)), 4, api.ErrMatchLimit)
	expandFails(t, row("ab", again(3, 3)), 1, api.ErrMatchLimit)
	expandFails(t, row("ab", again(2, 2)), 1, api.ErrMatchLimit)
	expandFails(t, row("ab", again(2, 3)), 2, api.ErrMatchToken)
	expandFails(t, row("ab", again(3, 3), again(2, 2)), 9, api.ErrMatchFar)
	expandFails(t, row("ab", again(2, 2), again(3, 3)), 9, api.ErrMatchToken)
	expandFails(t, row("ab", again(3, 2), again(2, 2)), 5, api.ErrMatchToken)
	expandFails(t, row("ab", again(3, 2), again(3, 6)), 5, api.ErrMatchFar)
	expandFails(t, row("ab", again(3, 2), again(3, 5)), 5, api.ErrMatchLimit)
	expandFails(t, row("ab", again(3, 2), "c"), 5, api.ErrMatchLimit)
	expandFails(t, row("ab", again(3, 2), again(2, 2)), 4, api.ErrMatchLimit)
}

func TestExpandManyTokens(t *testing.T) { // P9.4, P0.1: a small limit ends a long list early
	many := slices.Repeat(row("a"), 1<<20)
	expandFails(t, many, 1000, api.ErrMatchLimit)
	expands(t, many, strings.Repeat("a", 1<<20))
}
