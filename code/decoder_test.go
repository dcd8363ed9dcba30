package code_test

import (
	"strings"
	"testing"

	"valise/api"
	"valise/bits"
	"valise/code"
)

// reads asks whether Next answers the symbol, and moves the reader by its word.
func reads(t *testing.T, d *code.Decoder, r *bits.Reader, symbol, n int) {
	t.Helper()
	at := r.At()
	if s, e := d.Next(r); s != symbol || e != api.OK || r.At() != at+n {
		t.Errorf("Next at %d = %d, %d, then at %d, want %d and %d", at, s, e, r.At(), symbol, at+n)
	}
}

// fails asks whether Next answers the error, as often as it is asked, and leaves the reader where it is.
func fails(t *testing.T, d *code.Decoder, r *bits.Reader, want api.Errno) {
	t.Helper()
	at := r.At()
	for range 2 {
		if s, e := d.Next(r); s != 0 || e != want || r.At() != at {
			t.Errorf("Next at %d = %d, %d, then at %d, want %d", at, s, e, r.At(), want)
		}
	}
}

// readerAt is a reader over a row of bits that stands at one of them.
func readerAt(row string, at int) *bits.Reader {
	r := bits.NewReader(packed(row))
	r.Skip(at)
	return r
}

func TestNextAtEveryBit(t *testing.T) { // P5.6
	d := decoderOf(t, stairs())
	for at := range 40 {
		for symbol := range 16 {
			word, n := strings.Repeat("1", symbol)+"0", symbol+1
			if symbol == 15 {
				word, n = strings.Repeat("1", 15), 15
			}
			for _, around := range []string{"0", "1"} {
				r := readerAt(strings.Repeat(around, at)+word+strings.Repeat(around, 30), at)
				reads(t, d, r, symbol, n)
			}
		}
	}
}

// TestNextToTheLastBit: a word may end where the bits do.
func TestNextToTheLastBit(t *testing.T) { // P5.6
	d := decoderOf(t, stairs())
	for symbol, n := range stairs() {
		word := strings.Repeat("1", n-1) + "0"
		if symbol == 15 {
			word = strings.Repeat("1", n)
		}
		r := readerAt(strings.Repeat("0", 32-n)+word, 32-n)
		reads(t, d, r, symbol, n)
		fails(t, d, r, api.ErrCodeEnd)
	}
}

// TestNextWithinAWord: of a word of 15 bits any fewer are there.
func TestNextWithinAWord(t *testing.T) { // P5.6
	d := decoderOf(t, stairs())
	for left := range 15 {
		fails(t, d, readerAt(strings.Repeat("1", 16), 16-left), api.ErrCodeEnd)
	}
	reads(t, d, readerAt(strings.Repeat("1", 16), 1), 15, 15)
	reads(t, d, readerAt(strings.Repeat("1", 16), 0), 15, 15)
	d = decoderOf(t, of(256, 8))
	for left := range 8 { // the zero bits behind the end are none that the reader has
		fails(t, d, readerAt(strings.Repeat("0", 8), 8-left), api.ErrCodeEnd)
		fails(t, d, readerAt(strings.Repeat("1", 8), 8-left), api.ErrCodeEnd)
	}
	for _, lens := range [][]int{{1}, {0, 1}, {1, 1}, {2, 1, 3, 3}, stairs(), wide(), code.FixedLit(), code.FixedDist()} {
		fails(t, decoderOf(t, lens), bits.NewReader(nil), api.ErrCodeEnd)
		fails(t, decoderOf(t, lens), bits.NewReader([]byte{}), api.ErrCodeEnd)
		fails(t, decoderOf(t, lens), readerAt("00000000", 8), api.ErrCodeEnd)
	}
}

func TestNextOfASingleWord(t *testing.T) { // P5.5, P5.6
	for _, lens := range [][]int{{1}, {0, 1}, {0, 0, 1, 0}, append(of(287, 0), 1)} {
		d, symbol := decoderOf(t, lens), len(lens)-1
		if len(lens) == 4 {
			symbol = 2
		}
		for at := range 8 {
			r := readerAt("00000000", at)
			for r.Left() > 0 {
				reads(t, d, r, symbol, 1)
			}
			fails(t, d, r, api.ErrCodeEnd)
			fails(t, d, readerAt("11111111", at), api.ErrCodeNone) // at 7 it is the last bit
			fails(t, d, readerAt(strings.Repeat("0", at)+"1"+strings.Repeat("0", 30), at), api.ErrCodeNone)
		}
		r := readerAt("0001000011111111", 0)
		for range 3 {
			reads(t, d, r, symbol, 1)
		}
		fails(t, d, r, api.ErrCodeNone)
		r.Skip(1)
		reads(t, d, r, symbol, 1)
	}
}

// TestEveryRowBeginsWithOneWord reads each row of 15 bits, at the end of the bits and ahead of others.
func TestEveryRowBeginsWithOneWord(t *testing.T) { // P5.11
	for _, lens := range [][]int{{1, 1}, {2, 1, 3, 3}, {1, 0, 1}, stairs(), wide(), of(256, 8), code.FixedLit(), code.FixedDist()} {
		d := decoderOf(t, lens)
		words, _ := code.Codes(lens)
		seen := make([]int, len(lens))
		for row := range uint32(1 << 15) {
			w := bits.NewWriter()
			w.Put(1, 1)
			turned, _ := bits.Reverse(row, 15)
			w.Put(turned, 15)
			r := bits.NewReader(w.Bytes())
			r.Skip(1)
			s, e := d.Next(r)
			if e != api.OK || lens[s] == 0 || r.At() != 1+lens[s] || int(row)>>(15-lens[s]) != words[s] {
				t.Fatalf("of %v the row %015b = %d, %d, then at %d", lens, row, s, e, r.At())
			}
			seen[s]++
		}
		for symbol, n := range lens {
			if n > 0 && seen[symbol] != 1<<(15-n) || n == 0 && seen[symbol] != 0 {
				t.Errorf("of %v %d rows begin with the word of %d", lens, seen[symbol], symbol)
			}
		}
	}
}

func TestNextOfNoReader(t *testing.T) { // P5.6
	for _, lens := range [][]int{{1}, {1, 1}, stairs()} {
		fails(t, decoderOf(t, lens), nil, api.ErrArg)
		fails(t, decoderOf(t, lens), bits.NewReader(make([]byte, api.MaxPacked+1)), api.ErrArg) // too long: there is no reader
	}
}

func TestNilDecoder(t *testing.T) { // P5.12, P0.6
	fails(t, nil, nil, api.ErrArg)
	fails(t, nil, bits.NewReader(nil), api.ErrArg)
	fails(t, nil, readerAt("0101010111111111", 3), api.ErrArg)
}

func TestBareDecoder(t *testing.T) { // P0.1: one that NewDecoder has not made has no words
	var d code.Decoder
	fails(t, &d, nil, api.ErrArg)
	fails(t, &d, bits.NewReader(nil), api.ErrCodeNone)
	fails(t, &d, readerAt("0000000011111111", 0), api.ErrCodeNone)
	fails(t, &d, readerAt("0000000011111111", 8), api.ErrCodeNone)
}

func TestDecoderKeepsItsLengths(t *testing.T) { // P5.10, P0.3
	lens := []int{2, 1, 3, 3, 0}
	d := decoderOf(t, lens)
	spoil(lens)
	copy(lens, []int{1, 1, 1, 1, 1})
	r := bits.NewReader([]byte{0xD9, 0x01})
	for symbol, n := range []int{2, 1, 3, 3} {
		reads(t, d, r, symbol, n)
	}
}
