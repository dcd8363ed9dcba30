package block_test

import (
	"testing"

	"valise/api"
	"valise/block"
)

// stretch is a row of the chapter's tables: the lengths or distances that one symbol says.
type stretch struct{ symbol, further, from, to int }

// lengthTable is the chapter's table of lengths, distTable that of distances.
func lengthTable() []stretch {
	var table []stretch
	for length := 3; length <= 10; length++ {
		table = append(table, stretch{254 + length, 0, length, length})
	}
	return append(table,
		stretch{265, 1, 11, 12}, stretch{266, 1, 13, 14}, stretch{267, 1, 15, 16}, stretch{268, 1, 17, 18},
		stretch{269, 2, 19, 22}, stretch{270, 2, 23, 26}, stretch{271, 2, 27, 30}, stretch{272, 2, 31, 34},
		stretch{273, 3, 35, 42}, stretch{274, 3, 43, 50}, stretch{275, 3, 51, 58}, stretch{276, 3, 59, 66},
		stretch{277, 4, 67, 82}, stretch{278, 4, 83, 98}, stretch{279, 4, 99, 114}, stretch{280, 4, 115, 130},
		stretch{281, 5, 131, 162}, stretch{282, 5, 163, 194}, stretch{283, 5, 195, 226}, stretch{284, 5, 227, 257},
		stretch{285, 0, 258, 258})
}

func distTable() []stretch {
	return []stretch{
		{0, 0, 1, 1}, {1, 0, 2, 2}, {2, 0, 3, 3}, {3, 0, 4, 4},
		{4, 1, 5, 6}, {5, 1, 7, 8}, {6, 2, 9, 12}, {7, 2, 13, 16},
		{8, 3, 17, 24}, {9, 3, 25, 32}, {10, 4, 33, 48}, {11, 4, 49, 64},
		{12, 5, 65, 96}, {13, 5, 97, 128}, {14, 6, 129, 192}, {15, 6, 193, 256},
		{16, 7, 257, 384}, {17, 7, 385, 512}, {18, 8, 513, 768}, {19, 8, 769, 1024},
		{20, 9, 1025, 1536}, {21, 9, 1537, 2048}, {22, 10, 2049, 3072}, {23, 10, 3073, 4096},
		{24, 11, 4097, 6144}, {25, 11, 6145, 8192}, {26, 12, 8193, 12288}, {27, 12, 12289, 16384},
		{28, 13, 16385, 24576}, {29, 13, 24577, 32768},
	}
}

// one of the two pairs of calls.
type twoWays struct {
	word   string
	symbol func(int) (int, int, int, api.Errno)
	back   func(int, int) (int, api.Errno)
	table  []stretch
}

func bothPairs() []twoWays {
	return []twoWays{
		{"length", block.LengthSymbol, block.LengthOf, lengthTable()},
		{"distance", block.DistSymbol, block.DistOf, distTable()},
	}
}

func TestEverySymbol(t *testing.T) { // P10.1, P10.2: each length and each distance, both ways
	for _, c := range bothPairs() {
		for _, s := range c.table {
			for v := s.from; v <= s.to; v++ {
				if symbol, further, extra, e := c.symbol(v); symbol != s.symbol || further != s.further || extra != v-s.from || e != api.OK {
					t.Errorf("the %s %d = %d, %d, %d, %d, want %v", c.word, v, symbol, further, extra, e, s)
				}
				if back, e := c.back(s.symbol, v-s.from); back != v || e != api.OK {
					t.Errorf("the %s of %d, %d = %d, %d, want %d", c.word, s.symbol, v-s.from, back, e, v)
				}
			}
		}
	}
}

func TestNoSuchLength(t *testing.T) { // P10.1
	for _, v := range []int{-1 << 63, -258, -3, -1, 0, 1, 2, 259, 260, 513, 1 << 32, 1<<32 + 3, 1<<63 - 1} {
		if symbol, further, extra, e := block.LengthSymbol(v); symbol != 0 || further != 0 || extra != 0 || e != api.ErrArg {
			t.Errorf("LengthSymbol(%d) = %d, %d, %d, %d", v, symbol, further, extra, e)
		}
	}
}

func TestNoSuchDistance(t *testing.T) { // P10.1
	for _, v := range []int{-1 << 63, -32768, -1, 0, 32769, 65536, 1 << 32, 1<<32 + 1, 1<<63 - 1} {
		if symbol, further, extra, e := block.DistSymbol(v); symbol != 0 || further != 0 || extra != 0 || e != api.ErrArg {
			t.Errorf("DistSymbol(%d) = %d, %d, %d, %d", v, symbol, further, extra, e)
		}
	}
}

func TestEveryExtra(t *testing.T) { // P10.2: all numbers of so many bits, and no others
	for _, c := range bothPairs() {
		for _, s := range c.table {
			for extra := range 1 << s.further {
				if v, e := c.back(s.symbol, extra); v != s.from+extra || e != api.OK {
					t.Errorf("the %s of %d, %d = %d, %d", c.word, s.symbol, extra, v, e)
				}
			}
			for _, extra := range []int{-1 << 63, -8192, -1, 1 << s.further, 1<<s.further + 1, 8192, 1 << 32, 1<<63 - 1} {
				if v, e := c.back(s.symbol, extra); v != 0 || e != api.ErrArg {
					t.Errorf("the %s of %d, %d = %d, %d", c.word, s.symbol, extra, v, e)
				}
			}
		}
	}
	if v, e := block.LengthOf(284, 31); v != 258 || e != api.OK { // never written, but understood
		t.Errorf("LengthOf(284, 31) = %d, %d", v, e)
	}
}

func TestNoSuchSymbol(t *testing.T) { // P10.2
	for _, extra := range []int{-1, 0, 1} {
		for _, symbol := range []int{-1 << 63, -1, 0, 29, 97, 255, 256, 286, 287, 288, 542, 1 << 32, 1<<32 + 257, 1<<63 - 1} {
			if v, e := block.LengthOf(symbol, extra); v != 0 || e != api.ErrArg {
				t.Errorf("LengthOf(%d, %d) = %d, %d", symbol, extra, v, e)
			}
		}
		for _, symbol := range []int{-1 << 63, -30, -1, 30, 31, 32, 257, 1 << 32, 1<<63 - 1} {
			if v, e := block.DistOf(symbol, extra); v != 0 || e != api.ErrArg {
				t.Errorf("DistOf(%d, %d) = %d, %d", symbol, extra, v, e)
			}
		}
	}
}
