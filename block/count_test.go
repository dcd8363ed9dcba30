package block_test

import (
	"slices"
	"strings"
	"testing"

	"valise/api"
	"valise/build"
	"valise/code"
)

// numbers is a list of n numbers, all 0 but for those that are said: place, number, place, number ..
func numbers(n int, said ...int) []int {
	list := make([]int, n)
	for i := 0; i < len(said); i += 2 {
		list[said[i]] = said[i+1]
	}
	return list
}

func counts(t *testing.T, tokens []api.Token, wantLit, wantDist []int) {
	t.Helper()
	if lit, dist := counted(t, tokens); !slices.Equal(lit, wantLit) || !slices.Equal(dist, wantDist) {
		t.Errorf("Count(%v) = %v, %v, want %v, %v", some(tokens), lit, dist, wantLit, wantDist)
	}
}

func TestCountsEachSymbol(t *testing.T) { // P10.3
	for lit := range 256 {
		counts(t, slices.Repeat([]api.Token{{Lit: byte(lit)}}, lit+1), numbers(286, 256, 1, lit, lit+1), numbers(30))
	}
	for _, s := range lengthTable() {
		for length := s.from; length <= s.to; length++ {
			counts(t, row(again(length, 3)), numbers(286, 256, 1, s.symbol, 1), numbers(30, 2, 1))
		}
	}
	for _, s := range distTable() {
		for _, dist := range []int{s.from, (s.from + s.to) / 2, s.to} {
			counts(t, row(again(3, dist)), numbers(286, 256, 1, 257, 1), numbers(30, s.symbol, 1))
		}
	}
}

func TestCountsTogether(t *testing.T) { // P10.3: the end is counted once, however many tokens there are
	counts(t, nil, numbers(286, 256, 1), numbers(30))
	counts(t, row("abca", again(4, 2), "\x00\xff", again(258, 32768), again(258, 5), again(257, 6)),
		numbers(286, 97, 2, 98, 1, 99, 1, 0, 1, 255, 1, 256, 1, 258, 1, 284, 1, 285, 2), numbers(30, 1, 1, 4, 2, 29, 1))
	counts(t, row(saying(65536), "aa"), numbers(286, 256, 1, 285, 254, 'z', 4, 'a', 2), numbers(30, 0, 254)) // more than a block holds
}

func TestTokensThatMayNotBe(t *testing.T) { // P10.3, P10.4, P10.5, P10.7: wherever they stand
	for _, token := range unsound() {
		for _, tokens := range [][]api.Token{row(token), row("a", token), row(token, "a"), row(ten(), token, ten()), row(token, token)} {
			countFails(t, tokens, api.ErrBlockToken)
			measureFails(t, tokens, 0, api.ErrBlockToken)
			for kind := range 3 {
				writeFails(t, tokens, []byte("a"), kind, api.ErrBlockToken)
			}
		}
	}
}

func TestTokensThatMayBe(t *testing.T) { // P10.3 to P10.7: the edges of the domain
	for _, token := range []api.Token{{}, {Lit: 1}, {Lit: 255}, again(3, 1), again(258, 1), again(3, 32768), again(258, 32768)} {
		counted(t, row(token))
		treed(t, row(token))
		measured(t, row(token), 0)
		for kind := range 3 {
			writtenOf(t, "", row(token), strings.Repeat("x", max(1, token.Len)), kind, true) // a distance may reach ahead of the first byte
		}
	}
}

func TestManyTokens(t *testing.T) { // P10.3: ErrArg is ahead; P10.5, P10.7: there they are too long, or may not be
	tokens := make([]api.Token, api.MaxCapacity+1)
	countFails(t, tokens, api.ErrArg)
	measureFails(t, tokens, 0, api.ErrBlockLong)
	writeFails(t, tokens, nil, api.KindFixed, api.ErrBlockLong)
	counts(t, tokens[1:], numbers(286, 256, 1, 0, api.MaxCapacity), numbers(30))
	tokens[api.MaxCapacity].Len = 2
	countFails(t, tokens, api.ErrArg)
	countFails(t, tokens[1:], api.ErrBlockToken)
	measureFails(t, tokens, 0, api.ErrBlockToken)
	measureFails(t, tokens, -1, api.ErrArg)
	writeFails(t, tokens, nil, api.KindFixed, api.ErrBlockToken)
}

// treesOf asks that Trees is build's answer to Count's two lists.
func treesOf(t *testing.T, tokens []api.Token) (lit, dist []int) {
	t.Helper()
	lit, dist = treed(t, tokens)
	a, b := counted(t, tokens)
	wantLit, _ := build.Limited(a, 15)
	wantDist, _ := build.Limited(b, 15)
	if !slices.Equal(lit, wantLit) || !slices.Equal(dist, wantDist) {
		t.Errorf("Trees(%v) = %v, %v, want %v, %v", some(tokens), lit, dist, wantLit, wantDist)
	}
	return lit, dist
}

func TestTrees(t *testing.T) { // P10.4
	for _, tokens := range [][]api.Token{nil, row("a"), ten(), all(), row("aaab", again(3, 1), again(3, 9), again(17, 9)), saying(70000)} {
		treesOf(t, tokens)
	}
	lit, dist := treesOf(t, nil)
	if !slices.Equal(lit, numbers(286, 256, 1)) || !slices.Equal(dist, numbers(30)) {
		t.Errorf("Trees of nothing = %v, %v", lit, dist)
	}
}

func TestTreesWithinTheLimit(t *testing.T) { // P10.4: frequencies for which words without a limit would be longer than 15 bits
	var tokens []api.Token
	for i, a, b := 0, 1, 1; i < 20; i, a, b = i+1, b, a+b { // of literals and lengths the end is the first that stands once
		tokens = append(tokens, slices.Repeat([]api.Token{{Lit: byte(i)}}, b)...)
		tokens = append(tokens, slices.Repeat(row(again(3, distTable()[i].from)), a)...)
	}
	lit, dist := treesOf(t, tokens)
	if slices.Max(lit) != 15 || slices.Max(dist) != 15 {
		t.Errorf("the longest words have %d and %d bits", slices.Max(lit), slices.Max(dist))
	}
	for i, lens := range [][]int{lit, dist} {
		if shape, e := code.Check(lens); shape != api.ShapeComplete || e != api.OK {
			t.Errorf("the code %d has the shape %d, %d", i, shape, e)
		}
	}
}
