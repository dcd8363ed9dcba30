package block_test

import (
	"strings"
	"testing"

	"valise/api"
	"valise/block"
)

func chooses(t *testing.T, stored, fixed, dynamic, want int) {
	t.Helper()
	if kind := block.Choose(api.Sizes{Stored: stored, Fixed: fixed, Dynamic: dynamic}); kind != want {
		t.Errorf("Choose(%d, %d, %d) = %d, want %d", stored, fixed, dynamic, kind, want)
	}
}

func TestStoredSizes(t *testing.T) { // P10.5: the bits up to the border hang on where the block begins
	for at, missing := range []int{5, 4, 3, 2, 1, 0, 7, 6} {
		for _, n := range []int{0, 1, 2, 257, 258, 65534, 65535} {
			for _, far := range []int{0, 8, 64, 1 << 20, 1 << 32, 1<<63 - 8} { // only what at leaves counts
				if s := measured(t, saying(n), far+at); s.Stored != 3+missing+32+8*n {
					t.Errorf("%d bytes at %d: %v", n, far+at, s)
				}
			}
		}
	}
}

func TestWhereDoesNotCountElsewhere(t *testing.T) { // P10.5: the other kinds don't hang on it
	for _, tokens := range [][]api.Token{nil, ten(), all()} {
		first := measured(t, tokens, 0)
		for at := range 20 {
			if s := measured(t, tokens, at); s.Fixed != first.Fixed || s.Dynamic != first.Dynamic {
				t.Errorf("%v at %d: %v, at 0: %v", some(tokens), at, s, first)
			}
		}
	}
}

func TestFixedSizes(t *testing.T) { // P10.5: each symbol's word and its further bits
	for lit := range 256 {
		want := 3 + 8 + 7
		if lit >= 144 {
			want++
		}
		if s := measured(t, []api.Token{{Lit: byte(lit)}}, 0); s.Fixed != want {
			t.Errorf("the literal %d: %v, want %d", lit, s, want)
		}
	}
	for _, s := range lengthTable() {
		word := 7
		if s.symbol >= 280 {
			word = 8
		}
		for length := s.from; length <= s.to; length++ {
			if got := measured(t, row(again(length, 1)), 0); got.Fixed != 3+word+s.further+5+7 {
				t.Errorf("the length %d: %v", length, got)
			}
		}
	}
	for _, s := range distTable() {
		for _, dist := range []int{s.from, s.to} {
			if got := measured(t, row(again(3, dist)), 0); got.Fixed != 3+7+5+s.further+7 {
				t.Errorf("the distance %d: %v", dist, got)
			}
		}
	}
}

func TestDynamicSizes(t *testing.T) { // P10.5: by hand
	// The literals a, a, a, b and the end: a has a word of 1 bit, b and the end of 2. Lit has 257 lengths, Dist one, a 0.
	// Runs: {18, 97} {1, 1} {2, 1} {18, 138} {18, 19} {2, 1} {0, 1}. 18 three times, 2 twice, 0 and 1 once: the words have 1, 2, 3, 3 bits.
	// In the order of the small code's lengths that of 1 is the 18th.
	head := 14 + 3*18 + 3*(1+7) + 2*2 + 3 + 3
	if s := measured(t, row("aaab"), 0); s.Dynamic != 3+head+3*1+2+2 {
		t.Errorf("aaab: %v, want %d", s, 3+head+7)
	}
	// The literal a and copies of 11 from 1, 5 and 6 back: 265 three times, so it has a word of 1 bit and a further one; a and the end have 2.
	// Of distances 0 once, 4 twice: 1 bit each, the two with a further one.
	// Runs: {18, 97} {2, 1} {18, 138} {18, 20} {2, 1} {17, 8} {1, 1} | {1, 1} {17, 3} {1, 1}. 18 and 1 three times, 2 and 17 twice: 2 bits each.
	head = 14 + 3*18 + 3*(2+7) + 2*2 + 2*(2+3) + 3*2
	if s := measured(t, row("a", again(11, 1), again(11, 5), again(11, 6)), 0); s.Dynamic != 3+head+2+3*(1+1)+1+2*(1+1)+2 {
		t.Errorf("a and copies: %v, want %d", s, 3+head+2+6+1+4+2)
	}
}

func TestLongest(t *testing.T) { // P10.5, P10.7: 65535 bytes, and one more, however they are said
	measured(t, saying(65535), 0)
	literals := row(strings.Repeat("x", 65535))
	measured(t, literals, 0)
	for _, tokens := range [][]api.Token{saying(65536), row(literals, "x"), row(saying(65278), again(258, 1)), row(saying(65533), again(3, 1))} {
		measureFails(t, tokens, 0, api.ErrBlockLong)
		for kind := range 3 {
			writeFails(t, tokens, make([]byte, size(tokens)), kind, api.ErrBlockLong)
			writeFails(t, tokens, nil, kind, api.ErrBlockLong) // ahead of ErrBlockRaw
		}
	}
	measured(t, row(saying(65277), again(258, 1)), 0)
	measured(t, row(saying(65532), again(3, 1)), 0)
	counted(t, saying(65536)) // that is no business of Count and Trees
	treed(t, saying(65536))
}

func TestMeasureOrder(t *testing.T) { // P10.5
	for _, at := range []int{-1 << 63, -8, -1} {
		for _, tokens := range [][]api.Token{nil, ten(), row(again(2, 1)), saying(65536)} {
			measureFails(t, tokens, at, api.ErrArg)
		}
	}
	measureFails(t, row(saying(65536), again(2, 1)), 0, api.ErrBlockToken)
	measureFails(t, row(again(2, 1), saying(65536)), 0, api.ErrBlockToken)
}

func TestChoose(t *testing.T) { // P10.6: any ints; of equals the first
	const least, most = -1 << 63, 1<<63 - 1
	values := []int{least, -7, -1, 0, 1, 5, 1 << 40, most}
	for _, stored := range values {
		for _, fixed := range values {
			for _, dynamic := range values {
				want := api.KindDynamic
				if stored <= fixed && stored <= dynamic {
					want = api.KindStored
				} else if fixed <= dynamic {
					want = api.KindFixed
				}
				chooses(t, stored, fixed, dynamic, want)
			}
		}
	}
}
