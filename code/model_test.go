package code_test

import (
	"math/rand"
	"slices"
	"strconv"
	"strings"
	"testing"

	"valise/api"
	"valise/bits"
	"valise/code"
)

// shapeOf is the shape by the chapter's words, of lengths that may be.
func shapeOf(lens []int) int {
	words, use := 0, 0
	for _, l := range lens {
		if l > 0 {
			words++
			use += 32768 >> l
		}
	}
	switch {
	case words == 0:
		return api.ShapeEmpty
	case words == 1 && slices.Contains(lens, 1):
		return api.ShapeSingle
	case use > 32768:
		return api.ShapeOver
	case use == 32768:
		return api.ShapeComplete
	}
	return api.ShapeUnder
}

// wordsOf is the words by the chapter's words, as numbers and as texts of 0 and 1: each is the one ahead and 1, moved left.
func wordsOf(lens []int) ([]int, []string) {
	words, rows := make([]int, len(lens)), make([]string, len(lens))
	last, length := -1, 0
	for l := 1; l <= 15; l++ {
		for symbol, n := range lens {
			if n != l {
				continue
			}
			last = (last + 1) << (l - length)
			length = l
			words[symbol] = last
			row := strconv.FormatInt(int64(last), 2)
			rows[symbol] = strings.Repeat("0", l-len(row)) + row
		}
	}
	return words, rows
}

// taken is Next by the chapter's words: bit after bit, till they are a word, or begin none, or end.
func taken(rows []string, text string) (int, int, api.Errno) {
	for n := 0; ; n++ {
		have := text[:n]
		if symbol := slices.Index(rows, have); n > 0 && symbol >= 0 {
			return symbol, n, api.OK
		}
		if !slices.ContainsFunc(rows, func(row string) bool { return row != "" && strings.HasPrefix(row, have) }) {
			return 0, 0, api.ErrCodeNone
		}
		if n == len(text) {
			return 0, 0, api.ErrCodeEnd
		}
	}
}

// complete draws n lengths of which at least two are above 0: words that are split in two, again and again.
func complete(r *rand.Rand, n int) []int {
	words := []int{1, 1}
	for want := 2 + r.Intn(n-1); len(words) < want; {
		at := r.Intn(len(words))
		if r.Intn(2) == 0 {
			at = len(words) - 1 // long words come by splitting the last one
		}
		if words[at] < 15 {
			words[at]++
			words = append(words, words[at])
		}
	}
	lens := append(words, make([]int, n-len(words))...)
	r.Shuffle(n, func(i, j int) { lens[i], lens[j] = lens[j], lens[i] })
	return lens
}

// drawn draws lengths of any shape, mostly near a complete one.
func drawn(r *rand.Rand) []int {
	n := 2 + r.Intn(30)
	if r.Intn(10) == 0 {
		n = 200 + r.Intn(89)
	}
	lens := complete(r, n)
	switch r.Intn(6) {
	case 0, 1:
		lens[r.Intn(n)] = r.Intn(16)
	case 2:
		lens = of(n, 0)
		lens[r.Intn(n)] = r.Intn(3)
	case 3:
		for i := range lens {
			lens[i] = r.Intn(16) * r.Intn(2)
		}
	}
	return lens
}

func sameAsModel(t *testing.T, lens []int) {
	t.Helper()
	s := shapeOf(lens)
	checks(t, lens, s, api.OK)
	if s == api.ShapeOver {
		return
	}
	want, _ := wordsOf(lens)
	if got, e := code.Codes(lens); !slices.Equal(got, want) || e != api.OK {
		t.Errorf("Codes(%v) = %v, %d, want %v", lens, got, e, want)
	}
}

// TestEveryShortList goes through all lists of up to five lengths of which none is above 4.
func TestEveryShortList(t *testing.T) { // P5.1, P5.2, P5.5, P5.7
	var deeper func(lens []int)
	deeper = func(lens []int) {
		sameAsModel(t, lens)
		for l := 0; l <= 4 && len(lens) < 5; l++ {
			deeper(append(lens[:len(lens):len(lens)], l))
		}
	}
	deeper(nil)
}

func TestDrawnLists(t *testing.T) { // P5.1, P5.2, P5.5, P5.7
	seen := [5]int{}
	for seed := range int64(3000) {
		lens := drawn(rand.New(rand.NewSource(seed)))
		sameAsModel(t, lens)
		seen[shapeOf(lens)]++
	}
	for shape, n := range seen {
		if n < 50 {
			t.Errorf("only %d lists of the shape %d", n, shape)
		}
	}
}

// TestDecodersLikeTheModel reads drawn bits, which no encoder has written, from a drawn bit on to the end.
func TestDecodersLikeTheModel(t *testing.T) { // P5.6, P5.11
	for seed := range int64(600) {
		r := rand.New(rand.NewSource(seed))
		lens := complete(r, 2+r.Intn(40))
		if seed%5 == 0 {
			lens = of(len(lens), 0)
			lens[r.Intn(len(lens))] = 1
		}
		_, rows := wordsOf(lens)
		d := decoderOf(t, lens)
		text := drawnRow(r, 8*r.Intn(12))
		reader := bits.NewReader(packed(text))
		reader.Skip(r.Intn(len(text) + 1))
		for {
			at := reader.At()
			symbol, n, want := taken(rows, text[at:])
			if s, e := d.Next(reader); s != symbol || e != want || reader.At() != at+n {
				t.Fatalf("of %v over %s at %d: %d, %d, then at %d, want %d, %d, then at %d", lens, text, at, s, e, reader.At(), symbol, want, at+n)
			}
			if want != api.OK {
				break
			}
		}
	}
}

// drawnRow draws bits; in some rows one of the two is much more frequent.
func drawnRow(r *rand.Rand, n int) string {
	row, ones := make([]byte, n), 1+r.Intn(9)
	for i := range row {
		row[i] = '0'
		if r.Intn(10) < ones {
			row[i] = '1'
		}
	}
	return string(row)
}

// pen is an encoder with a writer of its own, and what that must hold.
type pen struct {
	lens    []int
	rows    []string
	encoder *code.Encoder
	writer  *bits.Writer
	held    string
	symbols []int
}

func newPen(t *testing.T, r *rand.Rand, lens []int) *pen {
	_, rows := wordsOf(lens)
	p := &pen{lens: lens, rows: rows, encoder: encoderOf(t, lens), writer: bits.NewWriter()}
	p.held = drawnRow(r, r.Intn(20))
	for _, bit := range p.held {
		p.writer.Put(uint32(bit-'0'), 1)
	}
	return p
}

// put writes a drawn symbol, one without a word among them.
func (p *pen) put(t *testing.T, r *rand.Rand) {
	t.Helper()
	symbol, want := r.Intn(len(p.lens)+2)-1, api.ErrCodeSymbol
	if symbol >= 0 && symbol < len(p.lens) && p.lens[symbol] > 0 {
		want = api.OK
		p.held += p.rows[symbol]
		p.symbols = append(p.symbols, symbol)
	}
	if e := p.encoder.Put(p.writer, symbol); e != want || rowOf(p.writer) != p.held {
		t.Fatalf("of %v Put(%d) = %d, want %d; %s, want %s", p.lens, symbol, e, want, rowOf(p.writer), p.held)
	}
}

// TestBothWays: two encoders write in turns, each to a writer of its own, and two decoders read in turns, to the same bits.
func TestBothWays(t *testing.T) { // P5.8, P5.10, P0.7
	for seed := range int64(300) {
		r := rand.New(rand.NewSource(seed))
		one := complete(r, 2+r.Intn(60))
		two := complete(r, 2+r.Intn(60))
		if seed%4 == 0 {
			two = []int{0, 0, 1}
		}
		var pens [2]*pen
		var decoders [2]*code.Decoder
		var readers [2]*bits.Reader
		for i, lens := range [][]int{one, two} {
			pens[i] = newPen(t, r, lens)
			decoders[i] = decoderOf(t, lens)
		}
		ahead := [2]int{pens[0].writer.Len(), pens[1].writer.Len()}
		for range 60 {
			pens[r.Intn(2)].put(t, r)
		}
		for i, p := range pens {
			behind := drawnRow(r, r.Intn(30))
			readers[i] = readerAt(p.held+behind, ahead[i])
		}
		for len(pens[0].symbols)+len(pens[1].symbols) > 0 {
			i := r.Intn(2)
			p := pens[i]
			if len(p.symbols) > 0 {
				reads(t, decoders[i], readers[i], p.symbols[0], p.lens[p.symbols[0]])
				p.symbols = p.symbols[1:]
			}
		}
		for i, p := range pens {
			if readers[i].At() != len(p.held) {
				t.Fatalf("the reader stands at %d, want %d", readers[i].At(), len(p.held))
			}
		}
	}
}

// TestNoMemory: one encoder writes to two writers in turns, one decoder reads from two readers, errors between.
func TestNoMemory(t *testing.T) { // P5.10
	lens := []int{2, 1, 3, 3}
	c, d := encoderOf(t, lens), decoderOf(t, lens)
	a, b := bits.NewWriter(), bits.NewWriter()
	for symbol := range 4 {
		c.Put(a, symbol)
		refuses(t, c, b, 9, api.ErrCodeSymbol)
		c.Put(b, 3-symbol)
	}
	if rowOf(a) != "100110111" || rowOf(b) != "111110010" {
		t.Fatalf("the writers hold %s and %s", rowOf(a), rowOf(b))
	}
	x, y, end := bits.NewReader(a.Bytes()), bits.NewReader(b.Bytes()), readerAt("11111111", 6)
	for symbol := range 4 {
		reads(t, d, x, symbol, lens[symbol])
		fails(t, d, end, api.ErrCodeEnd)
		reads(t, d, y, 3-symbol, lens[3-symbol])
		fails(t, d, nil, api.ErrArg)
	}
}

// TestCodesOverOneText: symbols of two codes stand among one another in one text, with raw numbers between.
func TestCodesOverOneText(t *testing.T) { // P5.10
	r := rand.New(rand.NewSource(5))
	encoders := [2]*code.Encoder{encoderOf(t, code.FixedLit()), encoderOf(t, code.FixedDist())}
	decoders := [2]*code.Decoder{decoderOf(t, code.FixedLit()), decoderOf(t, code.FixedDist())}
	w := bits.NewWriter()
	var symbols [3000]int
	for i := range symbols {
		symbols[i] = r.Intn([2]int{288, 32}[i%2])
		if e := encoders[i%2].Put(w, symbols[i]); e != api.OK {
			t.Fatalf("Put(%d) = %d", symbols[i], e)
		}
		w.Put(uint32(i%8), 3)
	}
	reader := bits.NewReader(w.Bytes())
	for i, symbol := range symbols {
		reads(t, decoders[i%2], reader, symbol, encoders[i%2].Len(symbol))
		if v, e := reader.Take(3); int(v) != i%8 || e != api.OK {
			t.Fatalf("behind the symbol %d stands %d, %d", symbol, v, e)
		}
	}
	if reader.At() != w.Len() {
		t.Errorf("the reader stands at %d, want %d", reader.At(), w.Len())
	}
}
