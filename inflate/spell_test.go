package inflate_test

import (
	"slices"
	"strconv"
	"strings"

	"valise/bits"
	"valise/header"
)

// Packed texts are spelled here as texts of 0 and 1, the first bit first.

// row is a number's n bits, the lowest first.
func row(v, n int) string {
	var text strings.Builder
	for i := range n {
		text.WriteByte("01"[v>>i&1])
	}
	return text.String()
}

// word is a code word: a number's n bits, the highest first.
func word(v, n int) string {
	text := strconv.FormatInt(int64(v), 2)
	return strings.Repeat("0", n-len(text)) + text
}

// first is a block's first three bits.
func first(final bool, kind int) string {
	if final {
		return "1" + row(kind, 2)
	}
	return "0" + row(kind, 2)
}

// litWord is the word of a fixed block's symbol, as RFC 1951 says it.
func litWord(symbol int) string {
	switch {
	case symbol < 144:
		return word(0x30+symbol, 8)
	case symbol < 256:
		return word(0x190+symbol-144, 9)
	case symbol < 280:
		return word(symbol-256, 7)
	}
	return word(0xC0+symbol-280, 8)
}

// distWord is the word of a fixed block's distance symbol.
func distWord(symbol int) string { return word(symbol, 5) }

// literals is the words of a text's bytes.
func literals(plain string) string {
	var text strings.Builder
	for i := range len(plain) {
		text.WriteString(litWord(int(plain[i])))
	}
	return text.String()
}

// lengthBases and distanceBases are the bases of the chapter's symbols, lengthFurther and distanceFurther their further bits.
func lengthBases() []int {
	return []int{3, 4, 5, 6, 7, 8, 9, 10, 11, 13, 15, 17, 19, 23, 27, 31, 35, 43, 51, 59, 67, 83, 99, 115, 131, 163, 195, 227, 258}
}

func lengthFurther() []int {
	return []int{0, 0, 0, 0, 0, 0, 0, 0, 1, 1, 1, 1, 2, 2, 2, 2, 3, 3, 3, 3, 4, 4, 4, 4, 5, 5, 5, 5, 0}
}

func distanceBases() []int {
	return []int{1, 2, 3, 4, 5, 7, 9, 13, 17, 25, 33, 49, 65, 97, 129, 193, 257, 385, 513, 769, 1025, 1537, 2049, 3073, 4097, 6145, 8193, 12289, 16385, 24577}
}

func distanceFurther() []int {
	return []int{0, 0, 0, 0, 1, 1, 2, 2, 3, 3, 4, 4, 5, 5, 6, 6, 7, 7, 8, 8, 9, 9, 10, 10, 11, 11, 12, 12, 13, 13}
}

// place is the last of the bases that is not above the number.
func place(bases []int, v int) int {
	at, ok := slices.BinarySearch(bases, v)
	if !ok {
		at--
	}
	return at
}

// lengthOf is a copy's length in a fixed block, distanceOf its distance, again both.
func lengthOf(length int) string {
	at := place(lengthBases(), length)
	return litWord(257+at) + row(length-lengthBases()[at], lengthFurther()[at])
}

func distanceOf(distance int) string {
	at := place(distanceBases(), distance)
	return distWord(at) + row(distance-distanceBases()[at], distanceFurther()[at])
}

func again(length, distance int) string { return lengthOf(length) + distanceOf(distance) }

// fixed is a fixed block of these words, with its end.
func fixed(final bool, words ...string) string {
	return first(final, 1) + strings.Join(words, "") + litWord(256)
}

// stored is a text with a stored block behind it.
func stored(ahead string, final bool, raw string) string {
	text := ahead + first(final, 0)
	text += strings.Repeat("0", (8-len(text)%8)%8) + row(len(raw), 16) + row(65535-len(raw), 16)
	var bytes strings.Builder
	for i := range len(raw) {
		bytes.WriteString(row(int(raw[i]), 8))
	}
	return text + bytes.String()
}

// dynamic is a dynamic block of these lengths and these words. Its end is not added: it is a word too.
func dynamic(final bool, lit, dist []int, words ...string) string {
	w := bits.NewWriter()
	if e := header.Write(w, lit, dist); e != 0 {
		panic(e)
	}
	return first(final, 2) + held(w) + strings.Join(words, "")
}

// held is the bits that a writer holds.
func held(w *bits.Writer) string {
	var text strings.Builder
	for _, b := range w.Bytes() {
		text.WriteString(row(int(b), 8))
	}
	return text.String()[:w.Len()]
}

// lits is 258 lengths of literals, all 0 but for those that are said: symbol, length, symbol, length ..
func lits(numbers ...int) []int {
	lens := make([]int, 258)
	for i := 0; i < len(numbers); i += 2 {
		lens[numbers[i]] = numbers[i+1]
	}
	return lens
}

// end is the lengths of a block that has but its end.
func end() []int { return lits(256, 1) }

// bytesOf is the bytes of these bits; what is missing in the last one is 0.
func bytesOf(text string) []byte {
	data := make([]byte, (len(text)+7)/8)
	for i, bit := range []byte(text) {
		data[i/8] |= (bit - '0') << (i % 8)
	}
	return data
}

// empty is blocks without bytes, none of them the last, whose bits are n more than a multiple of 8.
func empty(n int) string {
	text := ""
	if n%2 == 1 {
		text = dynamic(false, end(), []int{1, 1}, "0") // 91 bits
	}
	for len(text)%8 != n%8 {
		text += fixed(false) // 10 bits
	}
	return text
}

// alone is bytes that end with the last one of these bits. Bytes end at a border, so what is too few are blocks without bytes, ahead of them: a stored block would no longer stand at its border.
func alone(text string) []byte { return bytesOf(empty(8-len(text)%8) + text) }
