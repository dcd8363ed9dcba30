package deflate_test

import (
	"slices"
	"testing"

	"valise/api"
	"valise/deflate"
)

func TestSplitOne(t *testing.T) { // P11.4: a text that stays the same
	for _, n := range []int{0, 1, 127, 128, 129, 255, 256, 257, 300, 8063, 8064, 8065, 8191, 8192} {
		splits(t, lits(n, 'a'), n)
		splits(t, copies(n, 7, 300), n)
	}
}

func TestSplitAtMost(t *testing.T) { // P11.4, 1: a block of 8192 tokens takes in no more
	splits(t, lits(8193, 'a'), 8192, 1)
	splits(t, lits(8192+128, 'a'), 8192, 128)
	splits(t, lits(2*8192, 'a'), 8192, 8192)
	splits(t, lits(2*8192+5, 'a'), 8192, 8192, 5)
	splits(t, slices.Concat(lits(128, 'a'), lits(8192, 200), lits(1, 'a')), 128, 8192, 1) // the count begins anew with each block
}

func TestSplitBytes(t *testing.T) { // P11.4, 2: no block says more than 65535 bytes
	// 254 copies of 258 bytes say 65532.
	for rest, want := range [][]int{{254}, {255}, {256}, {257}, {256, 2}, {256, 3}} {
		splits(t, slices.Concat(copies(127, 258, 1), lits(rest, 'a'), copies(127, 258, 1)), want...)
	}
	splits(t, slices.Concat(copies(254, 258, 1), copies(1, 3, 1)), 255)
	splits(t, slices.Concat(copies(254, 258, 1), copies(1, 4, 1)), 128, 127)
	splits(t, copies(512, 128, 1), 384, 128) // 512 of them say 65536
	splits(t, slices.Concat(copies(511, 128, 1), copies(1, 127, 1)), 512)
	splits(t, copies(600, 258, 1), 128, 128, 128, 216) // a unit says 33024, two of them too much; the last one less
}

func TestSplitChange(t *testing.T) { // P11.4, 3: the shares differ by a half or more
	for _, n := range []int{128, 256, 384, 8064} {
		for _, other := range []int{0, 1, 31, 32, 33, 64, 128} {
			tokens := slices.Concat(lits(n, 'a'), lits(other, 200), lits(128-other, 'a'))
			if other >= 32 {
				splits(t, tokens, n, 128)
			} else {
				splits(t, tokens, n+128)
			}
		}
	}
	// the block's shares count as they have become: 60 of 256 are of the other class, and not 28 of 128, as at its beginning
	for other, want := range map[int][]int{0: {384}, 58: {384}, 60: {384}, 61: {384}, 62: {256, 128}, 128: {256, 128}} {
		splits(t, slices.Concat(lits(100, 'a'), lits(28, 200), lits(96, 'a'), lits(32, 200), lits(128-other, 'a'), lits(other, 200)), want...)
	}
}

func TestSplitShortUnit(t *testing.T) { // P11.4, 3: a unit of fewer than 128 tokens never changes the text
	for n := 1; n < 128; n++ {
		splits(t, slices.Concat(lits(128, 'a'), lits(n, 200)), 128+n)
		splits(t, slices.Concat(lits(128, 'a'), lits(128, 200), copies(n, 100, 1)), 128, 128+n)
	}
	splits(t, slices.Concat(lits(127, 'a'), lits(1, 'b'), lits(100, 200)), 228)
}

func TestSplitUnits(t *testing.T) { // P11.4: units are cut from the front, wherever the text changes
	splits(t, slices.Concat(lits(100, 'a'), lits(156, 200)), 128, 128)
	splits(t, slices.Concat(lits(28, 'a'), lits(228, 200)), 256)
	splits(t, slices.Concat(lits(130, 'a'), lits(300, 200)), 128, 302)
	splits(t, slices.Concat(lits(128, 'a'), lits(128, 200), lits(128, 'a')), 128, 128, 128)
}

// classed is the tokens at the edges of each class.
func classed() [][]api.Token {
	literal := func(b ...byte) (list []api.Token) {
		for _, v := range b {
			list = append(list, api.Token{Lit: v})
		}
		return list
	}
	span := func(lengths, dists []int) (list []api.Token) {
		for _, length := range lengths {
			for _, dist := range dists {
				list = append(list, api.Token{Len: length, Dist: dist})
			}
		}
		return list
	}
	short, long, near, far := []int{3, 5, 8}, []int{9, 100, 258}, []int{1, 128, 256}, []int{257, 4096, 32768}
	return [][]api.Token{
		literal(0, 31, 63), literal(64, 97, 127), literal(128, 160, 191), literal(192, 200, 255),
		span(short, near), span(short, far), span(long, near), span(long, far),
	}
}

func TestSplitClasses(t *testing.T) { // P11.4, 3: a change of class closes a block, one within it doesn't
	for i, ones := range classed() {
		for j, others := range classed() {
			for _, one := range ones {
				for _, other := range others {
					tokens := slices.Concat(slices.Repeat([]api.Token{one}, 128), slices.Repeat([]api.Token{other}, 128))
					long := max(one.Len, 1)+max(other.Len, 1) > 511 // together more than 65535 bytes
					if i == j && !long {
						splits(t, tokens, 256)
					} else {
						splits(t, tokens, 128, 128)
					}
				}
			}
		}
	}
}

func TestSplitBrokenToken(t *testing.T) { // P11.4, P0.4
	const least, most = -1 << 63, 1<<63 - 1
	for _, broken := range []api.Token{
		{Len: 1, Dist: 1}, {Len: 2, Dist: 1}, {Len: 259, Dist: 1}, {Len: -3, Dist: 1}, {Len: least, Dist: 1}, {Len: most, Dist: 1},
		{Len: 3}, {Len: 3, Dist: -1}, {Len: 3, Dist: 32769}, {Len: 3, Dist: least}, {Len: 3, Dist: most},
		{Dist: 1}, {Dist: -1}, {Dist: 1, Lit: 7}, {Len: 3, Dist: 1, Lit: 1}, {Len: 258, Dist: 32768, Lit: 255},
	} {
		for _, n := range []int{0, 1, 127, 128, 300, 8192} {
			for _, tokens := range [][]api.Token{
				append(lits(n, 'a'), broken), append([]api.Token{broken}, lits(n, 'a')...), append(copies(n, 258, 1), broken),
			} {
				if counts, e := deflate.Split(tokens); counts != nil || e != api.ErrBlockToken {
					t.Errorf("Split of %d tokens with %v = %v, %d", len(tokens), broken, some(counts), e)
				}
			}
		}
	}
}

func TestSplitTooMany(t *testing.T) { // P11.4: ErrArg is ahead of ErrBlockToken
	tokens := make([]api.Token, api.MaxCapacity+1)
	for range 2 {
		if counts, e := deflate.Split(tokens); counts != nil || e != api.ErrArg {
			t.Errorf("Split of %d tokens = %v, %d", len(tokens), some(counts), e)
		}
		tokens[0] = api.Token{Dist: 1}
	}
}

func TestSplitMost(t *testing.T) { // P11.4: as many tokens as may be
	counts, e := deflate.Split(make([]api.Token, api.MaxCapacity))
	if want := slices.Repeat([]int{8192}, api.MaxCapacity/8192); !slices.Equal(counts, want) || e != api.OK {
		t.Errorf("Split of all = %d blocks %v, %d", len(counts), some(counts), e)
	}
}
