package code_test

import (
	"math"
	"slices"
	"strings"
	"testing"

	"valise/api"
	"valise/bits"
	"valise/code"
)

// of is n lengths, each l.
func of(n, l int) []int { return slices.Repeat([]int{l}, n) }

// stairs is the lengths 1, 2, .. 14, 15, 15: the longest words that a complete code of 16 symbols may have.
func stairs() []int { return []int{1, 2, 3, 4, 5, 6, 7, 8, 9, 10, 11, 12, 13, 14, 15, 15} }

// wide is 288 lengths of a complete code, with lengths between that no word has.
func wide() []int {
	return slices.Concat(stairs()[:6], of(1, 11), of(16, 13), of(167, 14), of(98, 15))
}

func encoderOf(t *testing.T, lens []int) *code.Encoder {
	t.Helper()
	c, e := code.NewEncoder(lens)
	if c == nil || e != api.OK {
		t.Fatalf("NewEncoder(%v) = %v, %d", lens, c, e)
	}
	return c
}

func decoderOf(t *testing.T, lens []int) *code.Decoder {
	t.Helper()
	d, e := code.NewDecoder(lens)
	if d == nil || e != api.OK {
		t.Fatalf("NewDecoder(%v) = %v, %d", lens, d, e)
	}
	return d
}

// packed is the bytes of a row of bits, written as a text of 0 and 1.
func packed(row string) []byte {
	out := make([]byte, (len(row)+7)/8)
	for i, c := range []byte(row) {
		out[i/8] |= (c - '0') << (i % 8)
	}
	return out
}

// rowOf is what a writer holds, as a text of 0 and 1.
func rowOf(w *bits.Writer) string {
	data, row := w.Bytes(), make([]byte, w.Len())
	for i := range row {
		row[i] = '0' + data[i/8]>>(i%8)&1
	}
	return string(row)
}

// checks asks all four calls that take code lengths: they answer one error, or what the shape asks for.
func checks(t *testing.T, lens []int, shape int, e api.Errno) {
	t.Helper()
	if s, got := code.Check(lens); s != shape || got != e {
		t.Errorf("Check(%v) = %d, %d, want %d, %d", lens, s, got, shape, e)
	}
	inCodes, inEncoder, inDecoder := e, e, e
	switch {
	case e != api.OK:
	case shape == api.ShapeOver:
		inCodes, inEncoder, inDecoder = api.ErrCodeOver, api.ErrCodeOver, api.ErrCodeOver
	case shape == api.ShapeUnder:
		inEncoder, inDecoder = api.ErrCodeUnder, api.ErrCodeUnder
	case shape == api.ShapeEmpty:
		inDecoder = api.ErrCodeEmpty
	}
	words, got := code.Codes(lens)
	if got != inCodes || got != api.OK && words != nil || got == api.OK && len(words) != len(lens) {
		t.Errorf("Codes(%v) = %v, %d, want %d", lens, words, got, inCodes)
	}
	if c, got := code.NewEncoder(lens); got != inEncoder || (c != nil) != (inEncoder == api.OK) {
		t.Errorf("NewEncoder(%v) = %v, %d, want %d", lens, c, got, inEncoder)
	}
	if d, got := code.NewDecoder(lens); got != inDecoder || (d != nil) != (inDecoder == api.OK) {
		t.Errorf("NewDecoder(%v) = %v, %d, want %d", lens, d, got, inDecoder)
	}
}

func TestShapes(t *testing.T) { // P5.1, P5.2, P5.5, P5.7
	for _, c := range []struct {
		lens  []int
		shape int
	}{
		{nil, api.ShapeEmpty}, {[]int{}, api.ShapeEmpty}, {[]int{0}, api.ShapeEmpty}, {of(288, 0), api.ShapeEmpty},
		{[]int{1}, api.ShapeSingle}, {[]int{0, 0, 1, 0}, api.ShapeSingle}, {append(of(287, 0), 1), api.ShapeSingle}, {append([]int{1}, of(287, 0)...), api.ShapeSingle},
		{[]int{1, 2}, api.ShapeUnder}, {[]int{2, 2}, api.ShapeUnder}, {[]int{2, 2, 2}, api.ShapeUnder}, {[]int{1, 15}, api.ShapeUnder}, {of(288, 15), api.ShapeUnder}, {of(255, 8), api.ShapeUnder}, {stairs()[:15], api.ShapeUnder}, {wide()[:287], api.ShapeUnder},
		{[]int{1, 1}, api.ShapeComplete}, {[]int{0, 1, 0, 1, 0}, api.ShapeComplete}, {of(4, 2), api.ShapeComplete}, {of(256, 8), api.ShapeComplete}, {stairs(), api.ShapeComplete}, {wide(), api.ShapeComplete},
		{[]int{1, 1, 1}, api.ShapeOver}, {[]int{1, 1, 15}, api.ShapeOver}, {append(stairs(), 15), api.ShapeOver}, {of(257, 8), api.ShapeOver}, {of(288, 1), api.ShapeOver}, {append(of(256, 8), of(32, 0)...), api.ShapeComplete}, {append(of(256, 8), of(32, 15)...), api.ShapeOver},
	} {
		checks(t, c.lens, c.shape, api.OK)
	}
	for n := 2; n <= 15; n++ { // one word that is longer than a bit is no single one
		checks(t, []int{n}, api.ShapeUnder, api.OK)
		checks(t, []int{0, n, 0}, api.ShapeUnder, api.OK)
	}
	for n := 1; n <= 8; n++ { // a row too few, just enough, a row too many
		checks(t, append(of(1<<n-1, n), 15), api.ShapeUnder, api.OK)
		checks(t, of(1<<n, n), api.ShapeComplete, api.OK)
		checks(t, append(of(1<<n, n), 15), api.ShapeOver, api.OK)
	}
}

func TestErrorsInTheirOrder(t *testing.T) { // P5.1, P5.2, P5.5, P5.7: the number of lengths, then the lengths, then the shape
	for _, wrong := range []int{-1, 16, 17, 255, 256, 1 << 32, math.MinInt, math.MaxInt} {
		checks(t, []int{wrong}, 0, api.ErrCodeLength)
		checks(t, []int{1, 1, wrong}, 0, api.ErrCodeLength)
		checks(t, []int{wrong, 0, 0}, 0, api.ErrCodeLength)
		checks(t, []int{1, 1, 1, wrong, 1}, 0, api.ErrCodeLength)
		checks(t, append(of(287, 0), wrong), 0, api.ErrCodeLength)
		checks(t, append(of(287, 1), wrong), 0, api.ErrCodeLength)
		checks(t, append(of(288, 0), wrong), 0, api.ErrArg)
		checks(t, of(289, wrong), 0, api.ErrArg)
		checks(t, of(288, wrong), 0, api.ErrCodeLength)
	}
	for _, l := range []int{0, 1, 8, 15} {
		checks(t, of(289, l), 0, api.ErrArg)
		checks(t, of(100000, l), 0, api.ErrArg)
	}
	checks(t, append(wide(), 0), 0, api.ErrArg)
}

func TestCodes(t *testing.T) { // P5.2
	for _, c := range []struct{ lens, want []int }{
		{nil, nil}, {[]int{}, nil}, {[]int{0}, []int{0}}, {[]int{0, 0, 0}, []int{0, 0, 0}},
		{[]int{1}, []int{0}}, {[]int{0, 1}, []int{0, 0}}, {[]int{1, 1}, []int{0, 1}}, {[]int{1, 0, 1}, []int{0, 0, 1}},
		{[]int{15}, []int{0}}, {[]int{15, 15, 0, 15}, []int{0, 1, 0, 2}},
		{[]int{2, 2, 2}, []int{0, 1, 2}}, {[]int{15, 1}, []int{1 << 14, 0}}, {[]int{1, 15}, []int{0, 1 << 14}}, {[]int{15, 3, 9}, []int{0x1040, 0, 0x40}}, // 0x40 is 001000000, 0x1040 is 001000001000000
		{[]int{3, 1, 3, 2}, []int{6, 0, 7, 2}},
		{stairs(), []int{0, 2, 6, 14, 30, 62, 126, 254, 510, 1022, 2046, 4094, 8190, 16382, 32766, 32767}},
	} {
		if got, e := code.Codes(c.lens); !slices.Equal(got, c.want) || e != api.OK {
			t.Errorf("Codes(%v) = %v, %d, want %v", c.lens, got, e, c.want)
		}
	}
}

func TestCodesOfOneLength(t *testing.T) { // P5.2
	for l := 1; l <= 15; l++ {
		n := min(1<<l, 288)
		words, e := code.Codes(of(n, l))
		if len(words) != n || e != api.OK {
			t.Fatalf("Codes of %d lengths %d = %v, %d", n, l, words, e)
		}
		for symbol, word := range words {
			if word != symbol {
				t.Errorf("of the length %d the symbol %d has the word %d", l, symbol, word)
			}
		}
	}
}

// TestNoWordBeginsAnother looks at every two words of codes with few and with many.
func TestNoWordBeginsAnother(t *testing.T) { // P5.3
	for _, lens := range [][]int{{2, 1, 3, 3}, {1, 2}, {15, 1}, {15, 3, 9}, stairs(), stairs()[3:], wide(), wide()[1:], of(288, 15), code.FixedLit(), code.FixedDist()} {
		words, e := code.Codes(lens)
		if e != api.OK || len(words) != len(lens) {
			t.Fatalf("Codes(%v) = %v, %d", lens, words, e)
		}
		rows := make([]string, len(lens))
		for symbol, n := range lens {
			for i := n - 1; i >= 0; i-- {
				rows[symbol] += string(rune('0' + words[symbol]>>i&1))
			}
			if words[symbol]>>n != 0 {
				t.Errorf("of %v the word %d has more than %d bits", lens, words[symbol], n)
			}
		}
		for a, one := range rows {
			for b, other := range rows {
				if a != b && one != "" && other != "" && strings.HasPrefix(other, one) {
					t.Errorf("of %v the word %s of %d begins %s of %d", lens, one, a, other, b)
				}
			}
		}
	}
}

func TestFixed(t *testing.T) { // P5.4
	lit, dist := code.FixedLit(), code.FixedDist()
	want := slices.Concat(of(144, 8), of(112, 9), of(24, 7), of(8, 8))
	if !slices.Equal(lit, want) || len(lit) != 288 {
		t.Errorf("FixedLit = %v", lit)
	}
	if !slices.Equal(dist, of(32, 5)) {
		t.Errorf("FixedDist = %v", dist)
	}
	checks(t, lit, api.ShapeComplete, api.OK)
	checks(t, dist, api.ShapeComplete, api.OK)
	words, _ := code.Codes(lit)
	for _, c := range []struct{ symbol, word int }{ // as RFC 1951 has them
		{0, 0b00110000}, {143, 0b10111111}, {144, 0b110010000}, {255, 0b111111111}, {256, 0}, {279, 0b0010111}, {280, 0b11000000}, {287, 0b11000111},
	} {
		if words[c.symbol] != c.word {
			t.Errorf("the fixed word of %d is %b, want %b", c.symbol, words[c.symbol], c.word)
		}
	}
}

// spoil writes over a list and over all the room behind it.
func spoil(l []int) {
	for i := range l[:cap(l)] {
		l[:cap(l)][i] = -77
	}
}

func TestAnswersAreNewMemory(t *testing.T) { // P5.4, P0.3
	lens := []int{2, 1, 3, 3, 0, 9, 9}[:5:7]
	for _, c := range []struct {
		name string
		call func() []int
		want []int
	}{
		{"FixedLit", code.FixedLit, slices.Concat(of(144, 8), of(112, 9), of(24, 7), of(8, 8))},
		{"FixedDist", code.FixedDist, of(32, 5)},
		{"Codes", func() []int { words, _ := code.Codes(lens); return words }, []int{2, 0, 6, 7, 0}},
	} {
		one, two := c.call(), c.call()
		spoil(one)
		if !slices.Equal(two, c.want) || !slices.Equal(c.call(), c.want) {
			t.Errorf("%s: who changes an answer changes another one: %v", c.name, two)
		}
	}
	if !slices.Equal(lens[:7], []int{2, 1, 3, 3, 0, 9, 9}) {
		t.Errorf("who changes Codes' answer changes its argument: %v", lens[:7])
	}
}

func TestLengthsAreNotChanged(t *testing.T) { // P0.3
	for _, lens := range [][]int{{2, 1, 3, 3}, {0, 1}, {1, 2}, {1, 1, 1}, {16, 1}, stairs(), wide(), of(289, 3)} {
		room := append(slices.Clone(lens), 9, 9, 9)
		given := room[:len(lens)]
		code.Check(given)
		code.Codes(given)
		if c, _ := code.NewEncoder(given); c != nil {
			c.Put(bits.NewWriter(), 1)
			c.Len(1)
		}
		if d, _ := code.NewDecoder(given); d != nil {
			d.Next(bits.NewReader([]byte{0, 0}))
		}
		if !slices.Equal(room, append(slices.Clone(lens), 9, 9, 9)) {
			t.Errorf("the lengths %v have become %v", lens, room)
		}
	}
}
