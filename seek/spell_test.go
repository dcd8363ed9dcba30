package seek_test

import (
	"math/rand"
	"slices"
	"strconv"
	"strings"
	"sync"

	"valise/api"
	"valise/bits"
	"valise/code"
	"valise/header"
)

// Packed texts are spelled here as texts of 0 and 1, the first bit first.

// row is a number's n bits, the lowest first.
func row(v, n int) string {
	var text strings.Builder
	for i := range n {
		text.WriteByte("01"[v>>i&1])
	}
	return text.String()
}

// bitsOf is the bits of bytes, bytesOf the bytes of bits; what is missing in the last one is 0.
func bitsOf(data []byte) string {
	text := make([]byte, 0, 8*len(data))
	for _, b := range data {
		for i := range 8 {
			text = append(text, '0'+b>>i&1)
		}
	}
	return string(text)
}

func bytesOf(text string) []byte {
	data := make([]byte, (len(text)+7)/8)
	for i, bit := range []byte(text) {
		data[i/8] |= (bit - '0') << (i % 8)
	}
	return data
}

// plainWords is the words of chapter 5: each is the one ahead and 1, moved left.
func plainWords(lens []int) []string {
	words := make([]string, len(lens))
	last, length := -1, 0
	for l := 1; l <= 15; l++ {
		for symbol, n := range lens {
			if n == l {
				last = (last + 1) << (l - length)
				length = l
				word := strconv.FormatInt(int64(last), 2)
				words[symbol] = strings.Repeat("0", l-len(word)) + word
			}
		}
	}
	return words
}

// lengthBases and distanceBases are the bases of chapter 8's symbols, lengthFurther and distanceFurther their further bits.
func lengthBases() []int {
	return []int{3, 4, 5, 6, 7, 8, 9, 10, 11, 13, 15, 17, 19, 23, 27, 31, 35, 43, 51, 59, 67, 83, 99, 115, 131, 163, 195, 227, 258}
}

func lengthFurther() []int {
	return []int{0, 0, 0, 0, 0, 0, 0, 0, 1, 1, 1, 1, 2, 2, 2, 2, 3, 3, 3, 3, 4, 4, 4, 4, 5, 5, 5, 5, 0}
}

func distanceBases() []int {
	return []int{1, 2, 3, 4, 5, 7, 9, 13, 17, 25, 33, 49, 65, 97, 129, 193, 257, 385, 513, 769, 1025, 1537, 2049, 3073, 4097, 6145, 8193, 12289, 16385, 24577}
}

func distanceFurther() []int {
	return []int{0, 0, 0, 0, 1, 1, 2, 2, 3, 3, 4, 4, 5, 5, 6, 6, 7, 7, 8, 8, 9, 9, 10, 10, 11, 11, 12, 12, 13, 13}
}

// words is the two codes of a block, as words.
type words struct{ lit, dist []string }

var fixedWords = sync.OnceValue(func() words {
	return words{plainWords(code.FixedLit()), plainWords(code.FixedDist())}
})

// copied is a copy by its length and its distance.
func (w words) copied(n, d int) string {
	length, back := place(lengthBases(), n), place(distanceBases(), d)
	return w.lit[257+length] + row(n-lengthBases()[length], lengthFurther()[length]) + w.dist[back] + row(d-distanceBases()[back], distanceFurther()[back])
}

// place is the last of the bases that is not above the number.
func place(bases []int, v int) int {
	at, ok := slices.BinarySearch(bases, v)
	if !ok {
		at--
	}
	return at
}

// speller spells packed texts item by item, and notes where each block begins and where each item ends.
type speller struct {
	bits, plain  []byte
	blocks, ends []api.Mark
}

func (s *speller) put(bits string, plain ...byte) {
	s.bits = append(s.bits, bits...)
	s.plain = append(s.plain, plain...)
	s.ends = append(s.ends, api.Mark{Bit: len(s.bits), At: len(s.plain)})
}

func (s *speller) bytes() []byte { return bytesOf(string(s.bits)) }

// begin is a block's first three bits.
func (s *speller) begin(final bool, kind int) {
	s.blocks = append(s.blocks, api.Mark{Bit: len(s.bits), At: len(s.plain)})
	last := 0
	if final {
		last = 1
	}
	s.put(row(last+2*kind, 3))
}

// stored is a stored block, the bits up to the border as they are drawn.
func (s *speller) stored(final bool, raw, fill string) {
	s.begin(final, 0)
	s.put(fill[:(8-len(s.bits)%8)%8] + row(len(raw), 16) + row(65535-len(raw), 16))
	for i := range len(raw) {
		s.put(row(int(raw[i]), 8), raw[i])
	}
}

// fixed begins a fixed block, dynamic one with these lengths: both tell its words.
func (s *speller) fixed(final bool) words {
	s.begin(final, 1)
	return fixedWords()
}

func (s *speller) dynamic(final bool, lit, dist []int) words {
	s.begin(final, 2)
	w := bits.NewWriter()
	if e := header.Write(w, lit, dist); e != api.OK {
		panic(e)
	}
	s.put(bitsOf(w.Bytes())[:w.Len()])
	return words{plainWords(lit), plainWords(dist)}
}

func (s *speller) literals(w words, plain string) {
	for i := range len(plain) {
		s.put(w.lit[plain[i]], plain[i])
	}
}

// copies is a copy by its length and its distance, again one by its symbols' places in the tables and their further numbers.
func (s *speller) copies(w words, n, d int) { s.put(w.copied(n, d), s.repeated(n, d)...) }

func (s *speller) again(w words, length, above, back, beyond int) {
	bits := w.lit[257+length] + row(above, lengthFurther()[length]) + w.dist[back] + row(beyond, distanceFurther()[back])
	s.put(bits, s.repeated(lengthBases()[length]+above, distanceBases()[back]+beyond)...)
}

// repeated is what a copy says behind the plain text.
func (s *speller) repeated(n, d int) []byte {
	var said []byte
	for i := range n {
		if i < d {
			said = append(said, s.plain[len(s.plain)-d+i])
		} else {
			said = append(said, said[i-d])
		}
	}
	return said
}

func (s *speller) end(w words) { s.put(w.lit[256]) }

// lits is 258 lengths of literals, all 0 but for those that are said: symbol, length, symbol, length ..
func lits(numbers ...int) []int {
	lens := make([]int, 258)
	for i := 0; i < len(numbers); i += 2 {
		lens[numbers[i]] = numbers[i+1]
	}
	return lens
}

// complete draws n lengths of the shape complete, with at least two words: words that are split in two, again and again.
func complete(r *rand.Rand, n int) []int {
	lens := []int{1, 1}
	for want := 2 + r.Intn(n-1); len(lens) < want; {
		at := r.Intn(len(lens))
		if lens[at] >= 15 {
			at = slices.Index(lens, slices.Min(lens))
		}
		lens[at]++
		lens = append(lens, lens[at])
	}
	lens = append(lens, make([]int, n-len(lens))...)
	r.Shuffle(n, func(i, j int) { lens[i], lens[j] = lens[j], lens[i] })
	return lens
}

// drawnLists draws the lengths of two codes.
func drawnLists(r *rand.Rand) (lit, dist []int) {
	lit = complete(r, 257+r.Intn(30))
	if lit[256] == 0 {
		at := slices.IndexFunc(lit, func(l int) bool { return l > 0 })
		lit[at], lit[256] = 0, lit[at]
	}
	if r.Intn(8) == 0 {
		lit = lits(256, 1)
	}
	dist = complete(r, 2+r.Intn(29))
	switch r.Intn(6) {
	case 0:
		dist = nil
	case 1:
		dist = append(make([]int, r.Intn(30)), 1)
	}
	return lit, dist
}

// drawnSymbols draws the literals and the copies of a block, and its end.
func (s *speller) drawnSymbols(r *rand.Rand, w words) {
	for range r.Intn(1 + r.Intn(30)) {
		symbol := r.Intn(min(len(w.lit), 286))
		if r.Intn(3) == 0 {
			symbol = min(257+r.Intn(29), len(w.lit)-1)
		}
		switch {
		case w.lit[symbol] == "" || symbol == 256:
		case symbol < 256:
			s.literals(w, string([]byte{byte(symbol)}))
		default:
			s.drawnCopy(r, w, symbol-257)
		}
	}
	s.end(w)
}

// drawnCopy draws a copy that reaches no farther back than it may, if the code of the distances has a word for one.
func (s *speller) drawnCopy(r *rand.Rand, w words, length int) {
	var all []int
	for back, word := range w.dist {
		if word != "" && back < 30 && distanceBases()[back] <= len(s.plain) {
			all = append(all, back)
		}
	}
	if len(all) == 0 {
		return
	}
	back := all[r.Intn(len(all))]
	beyond := r.Intn(min(1<<distanceFurther()[back], len(s.plain)-distanceBases()[back]+1))
	s.again(w, length, r.Intn(1<<lengthFurther()[length]), back, beyond)
}

// drawnBlock draws a block, its codes too.
func (s *speller) drawnBlock(r *rand.Rand, final bool) {
	switch r.Intn(3) {
	case 0:
		s.stored(final, anyBytes(r.Int63(), r.Intn(1+r.Intn(30))), row(r.Intn(256), 8))
	case 1:
		s.drawnSymbols(r, s.fixed(final))
	default:
		lit, dist := drawnLists(r)
		s.drawnSymbols(r, s.dynamic(final, lit, dist))
	}
}

// drawnText draws a packed text of up to that many blocks.
func drawnText(r *rand.Rand, most int) *speller {
	s := &speller{}
	for n := r.Intn(most); n > 0; n-- {
		s.drawnBlock(r, false)
	}
	s.drawnBlock(r, true)
	return s
}

// eachKind is a text with blocks of each kind, the copies of which reach into the blocks ahead, and blocks without bytes.
func eachKind(seed int64) *speller {
	s := &speller{}
	s.stored(false, anyBytes(seed, 40), "01101101")
	w := s.fixed(false)
	s.literals(w, "a fixed block")
	s.copies(w, 40, 53)
	s.copies(w, 100, 1)
	s.end(w)
	s.stored(false, "", "11111111")
	s.end(s.fixed(false))
	w = s.dynamic(false, lits('x', 2, 'y', 2, 256, 2, 257, 2), []int{1, 0, 0, 0, 2, 0, 0, 0, 0, 0, 0, 0, 2})
	s.literals(w, "xyxyxxyy")
	s.copies(w, 3, 1)
	s.copies(w, 3, 6)
	s.copies(w, 3, 70)
	s.end(w)
	s.stored(false, anyBytes(seed+1, 20), "00000000")
	s.end(s.dynamic(true, lits(256, 1), nil))
	return s
}

// anyBytes is n bytes drawn by a seed.
func anyBytes(seed int64, n int) string {
	b := make([]byte, n)
	rand.New(rand.NewSource(seed)).Read(b)
	return string(b)
}

// some is the beginning of a list, to be shown.
func some(list []byte) []byte { return list[:min(len(list), 100)] }
