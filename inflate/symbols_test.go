package inflate_test

import (
	"bytes"
	"slices"
	"strings"
	"testing"

	"valise/api"
	"valise/inflate"
)

// of is n items, each v.
func of(n, v int) []int { return slices.Repeat([]int{v}, n) }

// copied is a text with a copy behind it, byte by byte.
func copied(plain []byte, length, distance int) []byte {
	for range length {
		plain = append(plain, plain[len(plain)-distance])
	}
	return plain
}

func TestEveryLiteral(t *testing.T) { // P8.1
	var plain []byte
	for b := range 256 {
		plain = append(plain, byte(b))
		answers(t, bytesOf(fixed(true, litWord(b))), 1, string([]byte{byte(b)}), 10+len(litWord(b)))
	}
	inflates(t, fixed(true, literals(string(plain))), string(plain))
	flat := append(of(256, 9), 2, 2) // 256 words of 9 bits, the end and one copy of 2
	var words []string
	for b := range 256 {
		words = append(words, word(256+b, 9))
	}
	inflates(t, dynamic(true, flat, nil, append(words, "00")...), string(plain))
}

func TestEveryLength(t *testing.T) { // chapter 8, 'Lengths'
	for length := 3; length <= 258; length++ {
		for _, distance := range []int{1, 7} {
			want, text := copied([]byte("abcdefg"), length, distance), fixed(true, literals("abcdefg"), again(length, distance))
			answers(t, bytesOf(text), len(want), string(want), len(text))
			answersError(t, bytesOf(text), len(want)-1, api.ErrInfLimit)
		}
	}
	inflates(t, fixed(true, literals("ab"), litWord(284), row(31, 5), distanceOf(2)), strings.Repeat("ab", 130)) // 258 in the other way
}

// TestEveryDistance: from each place back, over two blocks ahead.
func TestEveryDistance(t *testing.T) { // chapter 8, 'Distances'
	plain := []byte(anyBytes(3, api.Window))
	text := stored(stored("", false, string(plain[:20000])), false, string(plain[20000:]))
	var words strings.Builder
	for distance := 1; distance <= api.Window; distance++ {
		length := 3 + distance%256
		words.WriteString(again(length, distance))
		plain = copied(plain, length, distance)
	}
	data := bytesOf(text + fixed(true, words.String()))
	out, e := inflate.Exact(data, len(plain))
	if e != api.OK || !bytes.Equal(out, plain) {
		t.Errorf("%d bytes, %d, want %d", len(out), e, len(plain))
	}
}

func TestCopyIntoItself(t *testing.T) { // chapter 8, 'Symbols'
	for distance := 1; distance <= 40; distance++ {
		plain := anyBytes(4, 40)
		for length := 3; length <= 258; length += 5 {
			want := copied([]byte(plain), length, distance)
			answers(t, bytesOf(fixed(true, literals(plain), again(length, distance))), len(want), string(want), len(fixed(true, literals(plain), again(length, distance))))
		}
	}
}

func TestBackOverBlocks(t *testing.T) { // chapter 8: a distance reaches back over all blocks ahead, of whatever kind
	text := stored("", false, "abc")
	text += fixed(false, literals("de"))
	text += dynamic(false, lits(102, 1, 256, 1), nil, "0", "1")
	text += fixed(false)
	inflates(t, text+fixed(true, again(6, 6)), "abcdefabcdef")
	inflates(t, text+fixed(true, again(9, 6)), "abcdefabcdefabc")
	answersError(t, bytesOf(text+fixed(true, again(3, 7))), 9, api.ErrInfFar)
	inflates(t, text+dynamic(true, lits(256, 1, 257, 1), append(of(4, 0), 1), "1", "0", "1", "0"), "abcdefabc") // the symbol 4 with the bit 1: 6 back
}

func TestTooFar(t *testing.T) { // chapter 8: ahead of the limit, behind the further bits
	for n := range 12 {
		plain := anyBytes(5, n)
		for _, distance := range []int{n + 1, n + 2, 2*n + 5, 300} {
			text := first(true, 1) + literals(plain) + again(3, distance)
			for _, limit := range []int{n, n + 2, n + 3, api.MaxCapacity} {
				fails(t, text, limit, api.ErrInfFar)
			}
		}
	}
	for _, distance := range distanceBases() {
		fails(t, first(true, 1)+again(258, distance), 0, api.ErrInfFar)
	}
	plain := anyBytes(6, api.Window-1)
	answersError(t, bytesOf(stored("", false, plain)+first(true, 1)+again(3, api.Window)), api.MaxCapacity, api.ErrInfFar)
	inflates(t, stored("", false, plain)+fixed(true, again(3, api.Window-1)), plain+plain[:3])
}

func TestCopyBeyondTheLimit(t *testing.T) { // chapter 8
	text := first(true, 1) + literals("a") + again(10, 1)
	for limit := 1; limit < 11; limit++ {
		fails(t, text, limit, api.ErrInfLimit)
	}
	fails(t, text, 0, api.ErrInfLimit) // of the literal
	fails(t, text, 11, api.ErrInfEnd)
	inflates(t, text+litWord(256), strings.Repeat("a", 11))
}

func TestLiteralBeyondTheLimit(t *testing.T) { // chapter 8: told directly behind its word
	for n := range 5 {
		text := first(true, 1) + literals(strings.Repeat("\xFF", n))
		fails(t, text, n, api.ErrInfEnd)
		fails(t, text+litWord('x'), n, api.ErrInfLimit)
		fails(t, text+litWord(200), n, api.ErrInfLimit)
		endsWithin(t, text+litWord(200), len(text), n, api.ErrInfEnd)
	}
}

func TestSymbolsThatMeanNothing(t *testing.T) { // chapter 8: 286 and 287 of the first code, 30 and 31 of the second
	for symbol := 286; symbol <= 287; symbol++ {
		fails(t, first(true, 1)+litWord(symbol), 0, api.ErrInfSymbol)
		fails(t, first(true, 1)+literals("ab")+litWord(symbol), 2, api.ErrInfSymbol)
		endsWithin(t, first(true, 1)+litWord(symbol), 3, 9, api.ErrInfEnd)
	}
	for symbol := 30; symbol <= 31; symbol++ {
		fails(t, first(true, 1)+lengthOf(3)+distWord(symbol), 0, api.ErrInfSymbol)
		fails(t, first(true, 1)+literals("ab")+lengthOf(258)+distWord(symbol), 2, api.ErrInfSymbol)
		endsWithin(t, first(true, 1)+lengthOf(50)+distWord(symbol), 3, 9, api.ErrInfEnd)
	}
}

func TestSymbolsCutOff(t *testing.T) { // chapter 8: within a word, within the further bits of either
	for _, text := range []string{
		fixed(true, literals("a\xFF")),
		fixed(true, literals("a"), again(258, 1)),
		fixed(true, literals("a"), again(200, 1), again(130, 70), again(11, 2)),
		fixed(true, literals("a"), litWord(284), row(31, 5), distanceOf(1)),
	} {
		endsWithin(t, text, 3, 999, api.ErrInfEnd)
	}
	endsWithin(t, first(true, 1)+again(200, 30000), 3, 0, api.ErrInfEnd) // too far and beyond the limit, but not yet
	endsWithin(t, first(true, 1)+again(258, api.Window), 3, 0, api.ErrInfEnd)
}

func TestSingleWord(t *testing.T) { // chapter 8: bits that begin no word, be it the last bit that is left
	for _, lit := range [][]int{end(), append(end(), of(28, 0)...)} {
		for _, dist := range [][]int{nil, {1}, {1, 1}} {
			text := dynamic(true, lit, dist)
			inflates(t, text+"0", "")
			fails(t, text, 0, api.ErrInfEnd)
			fails(t, text+"1", 0, api.ErrInfSymbol)
		}
	}
	single := dynamic(true, lits(97, 2, 256, 2, 257, 1), []int{0, 0, 1}) // the only distance is 3
	inflates(t, single+"10"+"10"+"10"+"0"+"0"+"11", "aaaaaa")
	fails(t, single+"10"+"10"+"10"+"0", 9, api.ErrInfEnd)
	fails(t, single+"10"+"10"+"10"+"0"+"1", 9, api.ErrInfSymbol)
	fails(t, single+"0"+"1", 0, api.ErrInfSymbol)
	fails(t, single+"0"+"0", 0, api.ErrInfFar)
}

func TestNoDistances(t *testing.T) { // chapter 8: behind the further bits of the length, whether or not bits are left
	for _, dist := range [][]int{nil, of(30, 0)} {
		lit := append(lits(97, 2, 256, 2, 257, 2), of(28, 0)...)
		lit[284] = 2
		text := dynamic(true, lit, dist)
		inflates(t, text+"00"+"01", "a")
		fails(t, text+"10", 9, api.ErrInfSymbol)
		fails(t, text+"00"+"10", 1, api.ErrInfSymbol)
		endsWithin(t, text+"11"+"00000", len(text), 9, api.ErrInfEnd)
		fails(t, text+"11"+"00000", 0, api.ErrInfSymbol)
		fails(t, text+"11"+"11111", 9, api.ErrInfSymbol)
	}
}

// badHeader is a header that may not be, and the error that is told directly behind it.
type badHeader struct {
	text string
	e    api.Errno
}

func badHeaders() []badHeader {
	counts := func(lit, dist, small int) string { return row(lit-257, 5) + row(dist-1, 5) + row(small-4, 4) }
	repeats := counts(257, 1, 4) + row(1, 3) + row(0, 3) + row(1, 3) + row(0, 3)                                               // the small code of 16 and 18
	zeros := counts(257, 1, 4) + row(0, 3) + row(1, 3) + row(1, 3) + row(0, 3)                                                 // that of 17 and 18
	three := counts(257, 1, 18) + strings.Repeat("0", 6) + row(1, 3) + strings.Repeat("0", 36) + row(2, 3) + "000" + row(2, 3) // that of 18, 1 and 2
	return []badHeader{
		{counts(287, 1, 4), api.ErrHeadCounts},
		{counts(257, 31, 19), api.ErrHeadCounts},
		{counts(288, 32, 19), api.ErrHeadCounts},
		{counts(257, 1, 4) + strings.Repeat("0", 12), api.ErrHeadMeta},
		{repeats + "0" + row(0, 2), api.ErrHeadRepeat},
		{repeats + "0" + row(3, 2), api.ErrHeadRepeat},
		{repeats + strings.Repeat("1"+row(127, 7), 2), api.ErrHeadOver},
		{zeros + "1" + row(127, 7) + "1" + row(109, 7), api.ErrHeadLit},
		{three + "0" + row(127, 7) + "0" + row(107, 7) + "10" + "11", api.ErrHeadDist},
	}
}

func TestHeaders(t *testing.T) { // chapter 8: the errors of a header come as header.Read answers them
	text := dynamic(true, lits(97, 2, 98, 2, 256, 2, 257, 2), []int{1, 2, 2})
	endsWithin(t, text, 3, 9, api.ErrHeadEnd)
	fails(t, text, 9, api.ErrInfEnd)
	inflates(t, text+"00"+"01"+"11"+"10"+"10", "ababa")
	for _, h := range badHeaders() {
		for _, final := range []bool{false, true} {
			fails(t, first(final, 2)+h.text, 0, h.e)
			fails(t, fixed(false, literals("ab"))+first(final, 2)+h.text, 2, h.e)
			endsWithin(t, first(final, 2)+h.text, len(h.text)+2, 9, api.ErrHeadEnd)
		}
	}
}
