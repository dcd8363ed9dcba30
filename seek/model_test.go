package seek_test

import (
	"fmt"
	"math/rand"
	"slices"
	"testing"

	"valise/api"
	"valise/bits"
	"valise/code"
	"valise/header"
	"valise/inflate"
	"valise/seek"
)

// model reads a packed text, as a text of 0 and 1, on from a bit by the chapter's words, item by item, till out is as long as is wanted.
type model struct {
	text string
	at   int
	out  []byte // the window, and what stands behind it
	want int
}

// beginnings has for each beginning of a word -1, for each word its symbol.
type beginnings map[string]int

// known has the codes that the models have met.
var known = map[string]beginnings{}

func plainCode(lens []int) beginnings {
	key := fmt.Sprint(lens)
	if b, ok := known[key]; ok {
		return b
	}
	b := beginnings{}
	known[key] = b
	for symbol, w := range plainWords(lens) {
		for n := range len(w) {
			b[w[:n]] = -1
		}
		if w != "" {
			b[w] = symbol
		}
	}
	return b
}

// spaced is the marks of P22.2, of these blocks.
func spaced(blocks []api.Mark, step int) []api.Mark {
	var marks []api.Mark
	for i, b := range blocks {
		if i == 0 || b.At-marks[len(marks)-1].At >= step {
			marks = append(marks, b)
		}
	}
	return marks
}

// modelRange is P22.5, of an index with these marks of that plain text.
func modelRange(packed []byte, marks []api.Mark, plain []byte, from, to int) ([]byte, api.Errno) {
	switch {
	case len(packed) > api.MaxPacked:
		return nil, api.ErrArg
	case from < 0 || to < from || to > len(plain):
		return nil, api.ErrSeekRange
	case from == to:
		return nil, api.OK
	}
	var mark api.Mark
	for _, m := range marks {
		if m.At <= from {
			mark = m
		}
	}
	window := plain[max(0, mark.At-32768):mark.At]
	start := mark.At - len(window)
	m := &model{text: bitsOf(packed), at: mark.Bit, out: slices.Clone(window), want: to - start}
	if e := m.read(); e != api.OK {
		return nil, e
	}
	return m.out[from-start : to-start], api.OK
}

func (m *model) reached() bool { return len(m.out) >= m.want }

func (m *model) read() api.Errno {
	for {
		v, e := m.take(3)
		if e != api.OK {
			return e
		}
		if v>>1 == 3 {
			return api.ErrInfKind
		}
		if e := m.block(v >> 1); e != api.OK || m.reached() {
			return e
		}
		if v&1 == 1 {
			return api.ErrInfSize
		}
	}
}

func (m *model) take(n int) (int, api.Errno) {
	if m.at+n > len(m.text) {
		return 0, api.ErrInfEnd
	}
	v := 0
	for i := range n {
		v |= int(m.text[m.at+i]-'0') << i
	}
	m.at += n
	return v, api.OK
}

func (m *model) block(kind int) api.Errno {
	switch kind {
	case 0:
		return m.stored()
	case 1:
		return m.symbols(plainCode(code.FixedLit()), plainCode(code.FixedDist()))
	}
	r := bits.NewReader(bytesOf(m.text))
	r.Skip(m.at)
	lit, dist, e := header.Read(r)
	if e != api.OK {
		return e
	}
	m.at = r.At()
	return m.symbols(plainCode(lit), plainCode(dist))
}

func (m *model) stored() api.Errno {
	for m.at%8 != 0 {
		m.at++
	}
	n, _ := m.take(16)
	rest, e := m.take(16)
	if e != api.OK {
		return e
	}
	if rest != 65535-n {
		return api.ErrInfStored
	}
	for range n {
		v, e := m.take(8)
		if e != api.OK {
			return e
		}
		m.out = append(m.out, byte(v))
		if m.reached() {
			return api.OK
		}
	}
	return api.OK
}

func (m *model) symbol(words beginnings) (int, api.Errno) {
	for n := 1; ; n++ {
		if m.at+n > len(m.text) {
			return 0, api.ErrInfEnd
		}
		symbol, ok := words[m.text[m.at:m.at+n]]
		if !ok {
			return 0, api.ErrInfSymbol
		}
		if symbol >= 0 {
			m.at += n
			return symbol, api.OK
		}
	}
}

func (m *model) symbols(lit, dist beginnings) api.Errno {
	for {
		symbol, e := m.symbol(lit)
		switch {
		case e != api.OK:
			return e
		case symbol == 256:
			return api.OK
		case symbol > 256:
			if e := m.again(symbol, dist); e != api.OK {
				return e
			}
		default:
			m.out = append(m.out, byte(symbol))
		}
		if m.reached() {
			return api.OK
		}
	}
}

func (m *model) again(symbol int, dist beginnings) api.Errno {
	if symbol > 285 {
		return api.ErrInfSymbol
	}
	length, e := m.take(lengthFurther()[symbol-257])
	if e != api.OK {
		return e
	}
	length += lengthBases()[symbol-257]
	if len(dist) == 0 {
		return api.ErrInfSymbol
	}
	symbol, e = m.symbol(dist)
	if e != api.OK {
		return e
	}
	if symbol > 29 {
		return api.ErrInfSymbol
	}
	distance, e := m.take(distanceFurther()[symbol])
	if e != api.OK {
		return e
	}
	distance += distanceBases()[symbol]
	if distance > len(m.out) {
		return api.ErrInfFar
	}
	for range length {
		m.out = append(m.out, m.out[len(m.out)-distance])
	}
	return api.OK
}

// sameRange holds a range against the model, and tells its error.
func sameRange(t *testing.T, x *seek.Index, packed []byte, s *speller, step, from, to int) api.Errno {
	t.Helper()
	want, wantE := modelRange(packed, spaced(s.blocks, step), s.plain, from, to)
	if out, e := x.Range(packed, from, to); string(out) != string(want) || e != wantE || e != api.OK && out != nil {
		t.Errorf("of % x by % x, step %d: Range(%d, %d) = %q, %d, want %q, %d", some(packed), some(s.bytes()), step, from, to, some(out), e, some(want), wantE)
	}
	return wantE
}

// other is a packed text that is handed in in the place of the one that Build saw: one with some bits turned, cut off, or one that goes its own way from the bit on.
func other(r *rand.Rand, s *speller, bit int) []byte {
	text := []byte(bitsOf(s.bytes()))
	switch r.Intn(6) {
	case 0:
		return s.bytes()
	case 1:
		text = text[:8*r.Intn(1+len(text)/8)]
	case 2:
		for range 1 + r.Intn(3) {
			text[r.Intn(len(text))] ^= 1
		}
	case 3:
		text = append(text[:bit:bit], spelled(r)...)
	case 4:
		all := append(brokenHeaders(), brokenSymbols()...)
		text = append(text[:bit:bit], all[r.Intn(len(all))].text...)
	default:
		text = append(text[:bit:bit], bitsOf([]byte(anyBytes(r.Int63(), r.Intn(60))))...)
	}
	return bytesOf(string(text))
}

// spelled is the bits of a text that is drawn, without those of a block ahead of it that its copies may reach into.
func spelled(r *rand.Rand) string {
	s := &speller{}
	s.stored(false, anyBytes(r.Int63(), r.Intn(50)), "00000000")
	from := len(s.bits)
	for range r.Intn(3) {
		s.drawnBlock(r, false)
	}
	s.drawnBlock(r, r.Intn(2) == 0)
	return string(s.bits[from:])
}

func TestDrawnTexts(t *testing.T) { // P22.1 to P22.6
	r := rand.New(rand.NewSource(221))
	seen := map[api.Errno]int{}
	for range 1500 {
		s := drawnText(r, 9)
		step := 1 + r.Intn(1+r.Intn(60))
		x := built(t, s.bytes(), len(s.plain)+r.Intn(2), step)
		marks := spaced(s.blocks, step)
		marked(t, x, marks...)
		if x.Size() != len(s.plain) {
			t.Errorf("Size = %d, want %d", x.Size(), len(s.plain))
		}
		for range 12 {
			from := r.Intn(len(s.plain) + 1)
			to := from + r.Intn(len(s.plain)-from+1)
			packed := other(r, s, marks[r.Intn(len(marks))].Bit)
			seen[sameRange(t, x, packed, s, step, from, to)]++
			m := marks[r.Intn(len(marks))]
			seen[sameRange(t, x, other(r, s, m.Bit), s, step, m.At, min(m.At+1+r.Intn(9), len(s.plain)))]++
			sameRange(t, x, packed, s, step, r.Intn(len(s.plain)+9)-4, r.Intn(len(s.plain)+9)-4)
		}
	}
	for _, e := range []api.Errno{
		api.OK, api.ErrInfEnd, api.ErrInfKind, api.ErrInfStored, api.ErrInfSymbol, api.ErrInfFar, api.ErrInfSize, api.ErrHeadEnd,
		api.ErrHeadCounts, api.ErrHeadMeta, api.ErrHeadRepeat, api.ErrHeadOver, api.ErrHeadLit, api.ErrHeadDist,
	} {
		if seen[e] < 5 {
			t.Errorf("%d was drawn only %d times: %v", e, seen[e], seen)
		}
	}
}

func TestAnyBytes(t *testing.T) { // P22.1, P22.5, P0.1: what Build says of any bytes, and what a Range makes of them
	r := rand.New(rand.NewSource(222))
	s := eachKind(222)
	x := built(t, s.bytes(), len(s.plain), 1)
	for range 4000 {
		data := []byte(anyBytes(r.Int63(), r.Intn(90)))
		if len(data) > 0 && r.Intn(2) == 0 {
			data[0] = data[0]&^7 | byte(r.Intn(8))
		}
		limit := []int{0, 5, 300, api.MaxCapacity}[r.Intn(4)]
		asInflate(t, data, limit, 1+r.Intn(9))
		from := r.Intn(len(s.plain))
		sameRange(t, x, data, s, 1, from, from+1+r.Intn(len(s.plain)-from))
	}
}

// asInflate holds what Build says of a packed text against what inflate says of it.
func asInflate(t *testing.T, data []byte, limit, step int) api.Errno {
	t.Helper()
	plain, _, want := inflate.Inflate(data, limit)
	if want != api.OK {
		refuses(t, data, limit, step, want)
		return want
	}
	pieces, _ := inflate.Walk(data, limit)
	var blocks []api.Mark
	for _, p := range pieces {
		blocks = append(blocks, api.Mark{Bit: p.From, At: p.Start})
	}
	x := built(t, data, limit, step)
	marked(t, x, spaced(blocks, step)...)
	if x.Size() != len(plain) {
		t.Errorf("of % x: Size = %d, want %d", some(data), x.Size(), len(plain))
	}
	tells(t, x, data, 0, len(plain), string(plain))
	return want
}
