package inflate_test

import (
	"bytes"
	"compress/flate"
	"math/rand"
	"slices"
	"strconv"
	"strings"
	"sync"
	"testing"

	"valise/api"
	"valise/bits"
	"valise/code"
	"valise/header"
	"valise/inflate"
)

// model reads a packed text by the chapter's words, from texts of 0 and 1.
type model struct {
	text   string
	at     int
	limit  int
	out    []byte
	pieces []api.Piece
}

// beginnings has for each beginning of a word -1, for each word its symbol.
type beginnings map[string]int

// plainWords is the words of chapter 5: each is the one ahead and 1, moved left.
func plainWords(lens []int) []string {
	words := make([]string, len(lens))
	last, length := -1, 0
	for l := 1; l <= 15; l++ {
		for symbol, n := range lens {
			if n == l {
				last = (last + 1) << (l - length)
				length = l
				word := strconv.FormatInt(int64(last), 2)
				words[symbol] = strings.Repeat("0", l-len(word)) + word
			}
		}
	}
	return words
}

func plainCode(lens []int) beginnings {
	b := beginnings{}
	for symbol, w := range plainWords(lens) {
		for n := range len(w) {
			b[w[:n]] = -1
		}
		if w != "" {
			b[w] = symbol
		}
	}
	return b
}

// fixedCodes is the two codes of the fixed blocks, made once for all models.
var fixedCodes = sync.OnceValues(func() (beginnings, beginnings) {
	return plainCode(code.FixedLit()), plainCode(code.FixedDist())
})

// read is what Inflate answers: the error of the first thing with which it can't go on.
func (m *model) read() api.Errno {
	for {
		p := api.Piece{From: m.at, Start: len(m.out)}
		final, e := m.take(1)
		if e == api.OK {
			p.Kind, e = m.take(2)
		}
		if e == api.OK {
			e = m.block(p.Kind)
		}
		if e != api.OK {
			return e
		}
		p.Final, p.To, p.End = final == 1, m.at, len(m.out)
		m.pieces = append(m.pieces, p)
		if p.Final {
			return api.OK
		}
	}
}

func (m *model) take(n int) (int, api.Errno) {
	if m.at+n > len(m.text) {
		return 0, api.ErrInfEnd
	}
	v := 0
	for i := range n {
		v |= int(m.text[m.at+i]-'0') << i
	}
	m.at += n
	return v, api.OK
}

func (m *model) block(kind int) api.Errno {
	switch kind {
	case 0:
		return m.stored()
	case 1:
		return m.symbols(fixedCodes())
	case 2:
		fill := strings.Repeat("0", (8-(len(m.text)-m.at)%8)%8)
		r := bits.NewReader(bytesOf(fill + m.text[m.at:]))
		r.Skip(len(fill))
		lit, dist, e := header.Read(r)
		if e != api.OK {
			return e
		}
		m.at = len(m.text) - r.Left()
		return m.symbols(plainCode(lit), plainCode(dist))
	}
	return api.ErrInfKind
}

func (m *model) stored() api.Errno {
	for m.at%8 != 0 {
		m.at++
	}
	if len(m.text)-m.at < 32 {
		return api.ErrInfEnd
	}
	n, _ := m.take(16)
	rest, _ := m.take(16)
	if rest != 65535-n {
		return api.ErrInfStored
	}
	if len(m.out)+n > m.limit {
		return api.ErrInfLimit
	}
	if len(m.text)-m.at < 8*n {
		return api.ErrInfEnd
	}
	for range n {
		v, _ := m.take(8)
		m.out = append(m.out, byte(v))
	}
	return api.OK
}

func (m *model) symbol(words beginnings) (int, api.Errno) {
	for n := 1; ; n++ {
		if m.at+n > len(m.text) {
			return 0, api.ErrInfEnd
		}
		symbol, ok := words[m.text[m.at:m.at+n]]
		if !ok {
			return 0, api.ErrInfSymbol
		}
		if symbol >= 0 {
			m.at += n
			return symbol, api.OK
		}
	}
}

func (m *model) symbols(lit, dist beginnings) api.Errno {
	for {
		symbol, e := m.symbol(lit)
		switch {
		case e != api.OK:
			return e
		case symbol == 256:
			return api.OK
		case symbol > 256:
			if e := m.again(symbol, dist); e != api.OK {
				return e
			}
		case len(m.out) == m.limit:
			return api.ErrInfLimit
		default:
			m.out = append(m.out, byte(symbol))
		}
	}
}

func (m *model) again(symbol int, dist beginnings) api.Errno {
	if symbol > 285 {
		return api.ErrInfSymbol
	}
	length, e := m.take(lengthFurther()[symbol-257])
	if e != api.OK {
		return e
	}
	length += lengthBases()[symbol-257]
	if len(dist) == 0 {
		return api.ErrInfSymbol
	}
	symbol, e = m.symbol(dist)
	if e != api.OK {
		return e
	}
	if symbol > 29 {
		return api.ErrInfSymbol
	}
	distance, e := m.take(distanceFurther()[symbol])
	if e != api.OK {
		return e
	}
	distance += distanceBases()[symbol]
	if distance > len(m.out) {
		return api.ErrInfFar
	}
	if len(m.out)+length > m.limit {
		return api.ErrInfLimit
	}
	m.out = copied(m.out, length, distance)
	return api.OK
}

// bitsOf is the bits of bytes.
func bitsOf(data []byte) string {
	var text strings.Builder
	for _, b := range data {
		text.WriteString(row(int(b), 8))
	}
	return text.String()
}

// same holds the four calls against the model, and tells the error.
func same(t *testing.T, data []byte, limit int) api.Errno {
	t.Helper()
	m := &model{text: bitsOf(data), limit: limit}
	want := m.read()
	out, used, e := agree(t, data, limit)
	if e != want || e == api.OK && (!bytes.Equal(out, m.out) || used != m.at) {
		t.Errorf("Inflate(% x, %d) = %q, %d, %d, want %q, %d, %d", some(data), limit, some(out), used, e, some(m.out), m.at, want)
	}
	n := 0
	for p, part := range inflate.Blocks(data, limit) {
		if n == len(m.pieces) || p != m.pieces[n] || !bytes.Equal(part, m.out[p.Start:p.End]) {
			t.Errorf("the block %d of % x within %d is %v, %q", n, some(data), limit, p, some(part))
			break
		}
		n++
	}
	if n != len(m.pieces) {
		t.Errorf("%d blocks of % x within %d, want %d", n, some(data), limit, len(m.pieces))
	}
	return e
}

// complete draws n lengths of the shape complete, with at least two words: words that are split in two, again and again.
func complete(r *rand.Rand, n int) []int {
	words := []int{1, 1}
	for want := 2 + r.Intn(n-1); len(words) < want; {
		at := r.Intn(len(words))
		if words[at] >= 15 {
			at = slices.Index(words, slices.Min(words))
		}
		words[at]++
		words = append(words, words[at])
	}
	lens := append(words, of(n-len(words), 0)...)
	r.Shuffle(n, func(i, j int) { lens[i], lens[j] = lens[j], lens[i] })
	return lens
}

// drawer draws packed texts that mostly are whole.
type drawer struct {
	*rand.Rand
	text strings.Builder
	size int // bytes of the unpacked text
}

func (d *drawer) put(parts ...string) { d.text.WriteString(strings.Join(parts, "")) }

// seldom is true once in so many times.
func (d *drawer) seldom(n int) bool { return d.Intn(n) == 0 }

func (d *drawer) stored(final bool) {
	n := d.Intn(1 + d.Intn(30))
	d.put(first(final, 0))
	for d.text.Len()%8 != 0 {
		d.put(row(d.Intn(2), 1))
	}
	rest := 65535 - n
	if d.seldom(40) {
		rest ^= 1 << d.Intn(16)
	}
	d.put(row(n, 16), row(rest, 16), bitsOf([]byte(anyBytes(d.Int63(), n))))
	d.size += n
}

// lists draws the lengths of two codes.
func (d *drawer) lists() ([]int, []int) {
	lit := complete(d.Rand, 257+d.Intn(30))
	if lit[256] == 0 {
		at := slices.IndexFunc(lit, func(l int) bool { return l > 0 })
		lit[at], lit[256] = 0, lit[at]
	}
	if d.seldom(10) {
		lit = end()
	}
	dist := complete(d.Rand, 2+d.Intn(29))
	switch d.Intn(8) {
	case 0:
		dist = of(d.Intn(31), 0)
	case 1:
		dist = append(of(d.Intn(30), 0), 1)
	}
	return lit, dist
}

// pick draws a symbol that has a word, between two places; -1, if there is none.
func (d *drawer) pick(words []string, from, to int) int {
	var all []int
	for symbol := from; symbol < min(to, len(words)); symbol++ {
		if words[symbol] != "" {
			all = append(all, symbol)
		}
	}
	if len(all) == 0 {
		return -1
	}
	return all[d.Intn(len(all))]
}

// symbols draws the literals and copies of a block, and its end.
func (d *drawer) symbols(lit, dist []string) {
	for range d.Intn(1 + d.Intn(40)) {
		symbol := d.pick(lit, 0, 256)
		if d.seldom(2) {
			symbol = d.pick(lit, 257, 286)
		}
		if d.seldom(200) {
			symbol = d.pick(lit, 286, 288)
		}
		switch {
		case symbol < 0:
		case symbol < 256:
			d.put(lit[symbol])
			d.size++
		case symbol > 285:
			d.put(lit[symbol])
		default:
			d.again(symbol, lit, dist)
		}
	}
	d.put(lit[256])
}

// again draws a copy that seldom reaches too far.
func (d *drawer) again(symbol int, lit, dist []string) {
	most := place(distanceBases(), max(d.size, 1)) + 1
	if d.seldom(60) {
		most = 32
	}
	back := d.pick(dist, 0, most)
	if back < 0 && !d.seldom(60) || back > 29 && !d.seldom(5) {
		return
	}
	n := lengthFurther()[symbol-257]
	v := d.Intn(1 << n)
	d.put(lit[symbol], row(v, n))
	d.size += lengthBases()[symbol-257] + v
	if back >= 0 {
		d.put(dist[back])
	}
	if back >= 0 && back < 30 {
		n := distanceFurther()[back]
		v := d.Intn(1 << n)
		if distanceBases()[back]+v > d.size && !d.seldom(5) {
			v = 0
		}
		d.put(row(v, n))
	}
}

// drawn draws a packed text and tells how many bytes it unpacks to, if it is whole.
func drawn(r *rand.Rand) (string, int) {
	d := &drawer{Rand: r}
	for n := 1 + d.Intn(5); n > 0; n-- {
		switch d.Intn(3) {
		case 0:
			d.stored(n == 1)
		case 1:
			d.put(first(n == 1, 1))
			d.symbols(plainWords(code.FixedLit()), plainWords(code.FixedDist()))
		default:
			if d.seldom(25) {
				d.put(first(n == 1, 2), badHeaders()[d.Intn(len(badHeaders()))].text)
				continue
			}
			lit, dist := d.lists()
			d.put(dynamic(n == 1, lit, dist))
			d.symbols(plainWords(lit), plainWords(dist))
		}
	}
	return d.text.String(), d.size
}

// met asks that each of the answers has been drawn.
func met(t *testing.T, seen map[api.Errno]int, all ...api.Errno) {
	t.Helper()
	for _, e := range all {
		if seen[e] < 10 {
			t.Errorf("%d was drawn only %d times", e, seen[e])
		}
	}
}

func TestDrawnTexts(t *testing.T) { // P8.1 to P8.5
	r := rand.New(rand.NewSource(81))
	seen := map[api.Errno]int{}
	for range 4000 {
		text, size := drawn(r)
		whole := []byte(text)
		for range r.Intn(3) * r.Intn(2) {
			whole[r.Intn(1+r.Intn(len(whole)))] ^= 1
		}
		if r.Intn(10) == 0 {
			whole = whole[:r.Intn(len(whole))]
		}
		data := bytesOf(string(whole) + row(r.Intn(1<<20), r.Intn(21)))
		limit := []int{size, size, api.MaxCapacity, max(0, size-r.Intn(20)), r.Intn(size + 1), size + r.Intn(5)}[r.Intn(6)]
		seen[same(t, data, limit)]++
	}
	met(t, seen, api.OK, api.ErrInfEnd, api.ErrInfKind, api.ErrInfStored, api.ErrInfSymbol, api.ErrInfFar, api.ErrInfLimit,
		api.ErrHeadEnd, api.ErrHeadCounts, api.ErrHeadMeta, api.ErrHeadRepeat, api.ErrHeadOver, api.ErrHeadLit, api.ErrHeadDist)
}

func TestEveryCut(t *testing.T) { // P8.1, P0.1
	r := rand.New(rand.NewSource(82))
	for range 12 {
		text, size := drawn(r)
		data := bytesOf(text)
		for n := range min(len(data), 200) {
			same(t, data[:n], size)
		}
	}
}

func TestAnyBytes(t *testing.T) { // P8.1 to P8.5, P0.1
	r := rand.New(rand.NewSource(83))
	for range 20000 {
		data := make([]byte, r.Intn(60))
		r.Read(data)
		if len(data) > 0 && r.Intn(2) == 0 {
			data[0] = data[0]&^7 | byte(r.Intn(8))
		}
		same(t, data, []int{0, 5, 300, api.MaxCapacity}[r.Intn(4)])
	}
}

func TestManyTwoBytes(t *testing.T) { // P8.1 to P8.5, P0.1
	for v := 0; v < 1<<16; v += 5 {
		data := []byte{byte(v), byte(v >> 8)}
		if v%3 == 0 {
			data = append(data, 0xAA, 0x55, byte(v*7), 0)
		}
		same(t, data, v%7)
	}
}

// plainTexts is texts of several kinds.
func plainTexts() []string {
	words := strings.Repeat("a text that is packed and comes back, ", 400)
	return []string{"", "a", "aaaa", words, anyBytes(7, 70000), strings.Repeat("\x00", 100000), words + anyBytes(8, 40000) + words}
}

func TestTextsOfAnotherProgram(t *testing.T) { // P8.1, P8.2: what others pack
	for _, plain := range plainTexts() {
		for level := flate.HuffmanOnly; level <= flate.BestCompression; level++ {
			var packed bytes.Buffer
			w, _ := flate.NewWriter(&packed, level)
			w.Write([]byte(plain[:len(plain)/2]))
			if level%2 == 0 {
				w.Flush()
			}
			w.Write([]byte(plain[len(plain)/2:]))
			w.Close()
			out, e := inflate.Exact(packed.Bytes(), len(plain))
			if e != api.OK || string(out) != plain {
				t.Errorf("of %d bytes at the level %d: %d bytes, %d", len(plain), level, len(out), e)
			}
			agree(t, packed.Bytes(), len(plain)/2)
		}
	}
}
