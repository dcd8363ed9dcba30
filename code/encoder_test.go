package code_test

import (
	"math"
	"slices"
	"strings"
	"testing"

	"valise/api"
	"valise/bits"
	"valise/code"
)

// noSymbols are numbers for which no list of lengths has a place.
func noSymbols() []int { return []int{-1, -2, 288, 289, 1 << 32, math.MinInt, math.MaxInt} }

// refuses asks whether Put answers the error, and leaves the writer as it was.
func refuses(t *testing.T, c *code.Encoder, w *bits.Writer, symbol int, want api.Errno) {
	t.Helper()
	ahead, n := w.Bytes(), w.Len()
	if e := c.Put(w, symbol); e != want || w.Len() != n || !slices.Equal(w.Bytes(), ahead) {
		t.Errorf("Put(%d) = %d, want %d; %d bits, want %d", symbol, e, want, w.Len(), n)
	}
}

// TestPutFirstBitFirst: each word stands behind what was there, at every bit of a byte.
func TestPutFirstBitFirst(t *testing.T) { // P5.8
	c := encoderOf(t, []int{2, 0, 1, 3, 4, 4})
	for ahead := range 20 {
		for symbol, row := range map[int]string{0: "10", 2: "0", 3: "110", 4: "1110", 5: "1111"} {
			w := bits.NewWriter()
			w.Put(1<<ahead-1, ahead)
			if e := c.Put(w, symbol); e != api.OK || rowOf(w) != strings.Repeat("1", ahead)+row {
				t.Errorf("behind %d bits Put(%d) = %d: %s, want %s", ahead, symbol, e, rowOf(w), row)
			}
			w.Put(1, 2)
			if got := rowOf(w); got != strings.Repeat("1", ahead)+row+"10" {
				t.Errorf("behind the word of %d stands %s", symbol, got)
			}
		}
	}
}

func TestPutOfEveryLength(t *testing.T) { // P5.8, P5.9
	c, row := encoderOf(t, stairs()), ""
	w := bits.NewWriter()
	for symbol, n := range stairs() {
		word := strings.Repeat("1", symbol) + "0"
		if symbol == 15 {
			word = strings.Repeat("1", 15)
		}
		row += word
		if e := c.Put(w, symbol); e != api.OK || rowOf(w) != row || c.Len(symbol) != n {
			t.Errorf("Put(%d) = %d, Len %d; the bits %s, want %s", symbol, e, c.Len(symbol), rowOf(w), row)
		}
	}
}

func TestPutOfASingleWord(t *testing.T) { // P5.7, P5.8, P5.9
	c := encoderOf(t, []int{0, 0, 1, 0})
	w := bits.NewWriter()
	for range 3 {
		if e := c.Put(w, 2); e != api.OK {
			t.Errorf("Put(2) = %d", e)
		}
	}
	if rowOf(w) != "000" || c.Len(2) != 1 {
		t.Errorf("the bits %s, Len %d", rowOf(w), c.Len(2))
	}
	for _, symbol := range []int{0, 1, 3, 4} {
		refuses(t, c, w, symbol, api.ErrCodeSymbol)
	}
}

func TestSymbolsWithoutWord(t *testing.T) { // P5.7, P5.8, P5.9
	for _, lens := range [][]int{nil, {}, {0}, {0, 0}, of(288, 0), {1}, {0, 1}, {1, 0, 1}, {2, 0, 1, 0, 2}, stairs(), append(of(256, 8), 0)} {
		c := encoderOf(t, lens)
		w := bits.NewWriter()
		w.Put(5, 3)
		for symbol := -3; symbol < len(lens)+3; symbol++ {
			if symbol >= 0 && symbol < len(lens) && lens[symbol] > 0 {
				continue
			}
			refuses(t, c, w, symbol, api.ErrCodeSymbol)
			if n := c.Len(symbol); n != 0 {
				t.Errorf("of %v Len(%d) = %d", lens, symbol, n)
			}
		}
		for _, symbol := range noSymbols() {
			refuses(t, c, w, symbol, api.ErrCodeSymbol)
			if n := c.Len(symbol); n != 0 {
				t.Errorf("of %v Len(%d) = %d", lens, symbol, n)
			}
		}
	}
}

func TestLen(t *testing.T) { // P5.9
	for _, lens := range [][]int{{1}, {0, 1}, {1, 1}, {2, 1, 3, 3}, {2, 0, 1, 0, 2}, stairs(), wide(), code.FixedLit(), code.FixedDist()} {
		c := encoderOf(t, lens)
		for symbol, n := range lens {
			if got := c.Len(symbol); got != n {
				t.Errorf("of %v Len(%d) = %d", lens, symbol, got)
			}
		}
	}
}

// TestPutWithoutRoom: a word that fits fills the writer to its last bit, one that doesn't leaves it alone.
func TestPutWithoutRoom(t *testing.T) { // P5.8
	c := encoderOf(t, []int{2, 1, 3, 3})
	w := bits.NewWriter()
	if e := w.Raw(make([]byte, api.MaxPacked-1)); e != api.OK {
		t.Fatal(e)
	}
	w.Put(0, 6) // two bits are left
	put := func(symbol int, want api.Errno, left int) {
		t.Helper()
		if e := c.Put(w, symbol); e != want || w.Len() != 8*api.MaxPacked-left {
			t.Errorf("Put(%d) = %d, want %d; %d bits are left, want %d", symbol, e, want, 8*api.MaxPacked-w.Len(), left)
		}
	}
	put(2, api.ErrArg, 2)
	put(3, api.ErrArg, 2)
	put(4, api.ErrCodeSymbol, 2)
	put(1, api.OK, 1)
	put(0, api.ErrArg, 1)
	put(1, api.OK, 0)
	for symbol := range 4 {
		put(symbol, api.ErrArg, 0)
	}
	put(-1, api.ErrCodeSymbol, 0)
}

func TestPutToNoWriter(t *testing.T) { // P5.8: ahead of the symbol
	for _, lens := range [][]int{nil, {1}, {1, 0, 1}, stairs()} {
		c := encoderOf(t, lens)
		for symbol := -1; symbol < 4; symbol++ {
			if e := c.Put(nil, symbol); e != api.ErrArg {
				t.Errorf("Put(nil, %d) = %d", symbol, e)
			}
		}
	}
}

func TestNilEncoder(t *testing.T) { // P5.12, P0.6
	var c *code.Encoder
	w := bits.NewWriter()
	w.Put(1, 2)
	for _, symbol := range append(noSymbols(), 0, 1) {
		refuses(t, c, w, symbol, api.ErrArg)
		if e := c.Put(nil, symbol); e != api.ErrArg {
			t.Errorf("Put(nil, %d) = %d", symbol, e)
		}
		if n := c.Len(symbol); n != 0 {
			t.Errorf("Len(%d) = %d", symbol, n)
		}
	}
}

func TestBareEncoder(t *testing.T) { // P0.1: one that NewEncoder has not made has no words
	var c code.Encoder
	w := bits.NewWriter()
	for _, symbol := range append(noSymbols(), 0, 1) {
		refuses(t, &c, w, symbol, api.ErrCodeSymbol)
		if n := c.Len(symbol); n != 0 {
			t.Errorf("Len(%d) = %d", symbol, n)
		}
	}
}

func TestEncoderKeepsItsLengths(t *testing.T) { // P5.10, P0.3
	lens := []int{2, 1, 3, 3, 0}
	c := encoderOf(t, lens)
	spoil(lens)
	copy(lens, []int{1, 1, 1, 1, 1})
	w := bits.NewWriter()
	for symbol := range 4 {
		if e := c.Put(w, symbol); e != api.OK {
			t.Errorf("Put(%d) = %d", symbol, e)
		}
	}
	if rowOf(w) != "100110111" || c.Len(0) != 2 || c.Len(4) != 0 {
		t.Errorf("the bits %s, Len %d and %d", rowOf(w), c.Len(0), c.Len(4))
	}
	refuses(t, c, w, 4, api.ErrCodeSymbol)
}
