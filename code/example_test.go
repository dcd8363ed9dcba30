package code_test

import (
	"bytes"
	"slices"
	"testing"

	"valise/api"
	"valise/bits"
	"valise/code"
)

func TestExampleComplete(t *testing.T) { // example 1
	checks(t, []int{2, 1, 3, 3}, api.ShapeComplete, api.OK)
	if words, e := code.Codes([]int{2, 1, 3, 3}); !slices.Equal(words, []int{2, 0, 6, 7}) || e != api.OK {
		t.Errorf("Codes = %v, %d", words, e)
	}
}

func TestExampleShapes(t *testing.T) { // example 2
	for _, c := range []struct {
		lens  []int
		shape int
		e     api.Errno
	}{
		{[]int{1}, api.ShapeSingle, api.OK}, {[]int{0, 1}, api.ShapeSingle, api.OK}, {[]int{0, 0}, api.ShapeEmpty, api.OK},
		{[]int{2}, api.ShapeUnder, api.OK}, {[]int{1, 2}, api.ShapeUnder, api.OK}, {[]int{1, 1, 1}, api.ShapeOver, api.OK}, {[]int{1, 0, 1}, api.ShapeComplete, api.OK},
		{[]int{16}, 0, api.ErrCodeLength}, {of(289, 1), 0, api.ErrArg}, {append(of(288, 1), 16), 0, api.ErrArg}, {nil, api.ShapeEmpty, api.OK},
	} {
		checks(t, c.lens, c.shape, c.e)
	}
}

func TestExampleCodes(t *testing.T) { // example 3
	for _, c := range []struct {
		lens, want []int
		e          api.Errno
	}{
		{[]int{3, 3, 3, 3, 3, 2, 4, 4}, []int{2, 3, 4, 5, 6, 0, 14, 15}, api.OK},
		{[]int{2, 0, 2}, []int{0, 0, 1}, api.OK},
		{[]int{0, 4, 1}, []int{0, 8, 0}, api.OK},
		{[]int{1, 1, 1}, nil, api.ErrCodeOver},
	} {
		if words, e := code.Codes(c.lens); !slices.Equal(words, c.want) || e != c.e {
			t.Errorf("Codes(%v) = %v, %d, want %v, %d", c.lens, words, e, c.want, c.e)
		}
	}
}

func TestExampleEncoder(t *testing.T) { // example 4
	c := encoderOf(t, []int{2, 1, 3, 3})
	w := bits.NewWriter()
	for symbol := range 4 {
		if e := c.Put(w, symbol); e != api.OK {
			t.Errorf("Put(%d) = %d", symbol, e)
		}
	}
	if w.Len() != 9 || !bytes.Equal(w.Bytes(), []byte{0xD9, 0x01}) {
		t.Errorf("%d bits, %x", w.Len(), w.Bytes())
	}
}

func TestExampleDecoder(t *testing.T) { // example 5
	d := decoderOf(t, []int{2, 1, 3, 3})
	r := bits.NewReader([]byte{0xD9})
	reads(t, d, r, 0, 2)
	reads(t, d, r, 1, 1)
	reads(t, d, r, 2, 3)
	fails(t, d, r, api.ErrCodeEnd)
	if r.At() != 6 {
		t.Errorf("At %d", r.At())
	}
}

func TestExampleSingle(t *testing.T) { // example 6
	d := decoderOf(t, []int{0, 1})
	r := bits.NewReader([]byte{2})
	reads(t, d, r, 1, 1)
	fails(t, d, r, api.ErrCodeNone)
	if r.At() != 1 {
		t.Errorf("At %d", r.At())
	}
}

func TestExampleMaking(t *testing.T) { // example 7
	for _, c := range []struct {
		lens []int
		want api.Errno
	}{{[]int{1, 2}, api.ErrCodeUnder}, {[]int{0, 0}, api.ErrCodeEmpty}, {[]int{17}, api.ErrCodeLength}} {
		if d, e := code.NewDecoder(c.lens); d != nil || e != c.want {
			t.Errorf("NewDecoder(%v) = %v, %d, want %d", c.lens, d, e, c.want)
		}
	}
	refuses(t, encoderOf(t, []int{0, 0}), bits.NewWriter(), 0, api.ErrCodeSymbol)
}

func TestExampleNoWord(t *testing.T) { // example 8
	c := encoderOf(t, []int{1, 0, 1})
	for _, symbol := range []int{1, -1, 3} {
		refuses(t, c, bits.NewWriter(), symbol, api.ErrCodeSymbol)
		if n := c.Len(symbol); n != 0 {
			t.Errorf("Len(%d) = %d", symbol, n)
		}
	}
}
