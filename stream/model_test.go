package stream_test

import (
	"bytes"
	"fmt"
	"math/rand"
	"strings"
	"testing"

	"valise/api"
	"valise/bits"
	"valise/code"
	"valise/header"
	"valise/inflate"
	"valise/stream"
)

// model reads the bytes that have come by the chapter's words, from their first bit on, from a text of 0 and 1.
type model struct {
	text  string
	at    int
	limit int
	out   []byte
	used  int  // behind the last item that is fixed
	done  bool // the last block's end is fixed
}

// beginnings has for each beginning of a word -1, for each word its symbol.
type beginnings map[string]int

// known has the codes that the models have met: each text is read again behind each of its bytes.
var known = map[string]beginnings{}

func plainCode(lens []int) beginnings {
	key := fmt.Sprint(lens)
	if b, ok := known[key]; ok {
		return b
	}
	b := beginnings{}
	known[key] = b
	for symbol, w := range plainWords(lens) {
		for n := range len(w) {
			b[w[:n]] = -1
		}
		if w != "" {
			b[w] = symbol
		}
	}
	return b
}

// modelOf is what the bytes fix, and the error that stands behind them.
func modelOf(data []byte, limit int) (*model, api.Errno) {
	m := &model{text: bitsOf(data), limit: limit}
	e := m.read()
	switch {
	case e == api.ErrInfEnd || e == api.ErrHeadEnd:
		e = api.OK
	case e == api.OK && len(m.text)-m.used >= 8:
		e = api.ErrOver
	}
	return m, e
}

// fixes says that the item is fixed that ends here.
func (m *model) fixes() { m.used = m.at }

func (m *model) read() api.Errno {
	for {
		v, e := m.take(3)
		if e != api.OK {
			return e
		}
		if v>>1 == 3 {
			return api.ErrInfKind
		}
		m.fixes()
		if e := m.block(v >> 1); e != api.OK {
			return e
		}
		if v&1 == 1 {
			m.done = true
			return api.OK
		}
	}
}

func (m *model) take(n int) (int, api.Errno) {
	if m.at+n > len(m.text) {
		return 0, api.ErrInfEnd
	}
	v := 0
	for i := range n {
		v |= int(m.text[m.at+i]-'0') << i
	}
	m.at += n
	return v, api.OK
}

func (m *model) block(kind int) api.Errno {
	switch kind {
	case 0:
		return m.stored()
	case 1:
		return m.symbols(plainCode(code.FixedLit()), plainCode(code.FixedDist()))
	}
	r := bits.NewReader(bytesOf(m.text))
	r.Skip(m.at)
	lit, dist, e := header.Read(r)
	if e != api.OK {
		return e
	}
	m.at = r.At()
	m.fixes()
	return m.symbols(plainCode(lit), plainCode(dist))
}

func (m *model) stored() api.Errno {
	for m.at%8 != 0 {
		m.at++
	}
	n, _ := m.take(16)
	rest, e := m.take(16)
	if e != api.OK {
		return e
	}
	if rest != 65535-n {
		return api.ErrInfStored
	}
	if len(m.out)+n > m.limit {
		return api.ErrInfLimit
	}
	m.fixes()
	for range n {
		v, e := m.take(8)
		if e != api.OK {
			return e
		}
		m.out = append(m.out, byte(v))
		m.fixes()
	}
	return api.OK
}

func (m *model) symbol(words beginnings) (int, api.Errno) {
	for n := 1; ; n++ {
		if m.at+n > len(m.text) {
			return 0, api.ErrInfEnd
		}
		symbol, ok := words[m.text[m.at:m.at+n]]
		if !ok {
			return 0, api.ErrInfSymbol
		}
		if symbol >= 0 {
			m.at += n
			return symbol, api.OK
		}
	}
}

func (m *model) symbols(lit, dist beginnings) api.Errno {
	for {
		symbol, e := m.symbol(lit)
		switch {
		case e != api.OK:
			return e
		case symbol == 256:
			m.fixes()
			return api.OK
		case symbol > 256:
			if e := m.again(symbol, dist); e != api.OK {
				return e
			}
		case len(m.out) == m.limit:
			return api.ErrInfLimit
		default:
			m.out = append(m.out, byte(symbol))
		}
		m.fixes()
	}
}

func (m *model) again(symbol int, dist beginnings) api.Errno {
	if symbol > 285 {
		return api.ErrInfSymbol
	}
	length, e := m.take(lengthFurther()[symbol-257])
	if e != api.OK {
		return e
	}
	length += lengthBases()[symbol-257]
	if len(dist) == 0 {
		return api.ErrInfSymbol
	}
	symbol, e = m.symbol(dist)
	if e != api.OK {
		return e
	}
	if symbol > 29 {
		return api.ErrInfSymbol
	}
	distance, e := m.take(distanceFurther()[symbol])
	if e != api.OK {
		return e
	}
	distance += distanceBases()[symbol]
	if distance > len(m.out) {
		return api.ErrInfFar
	}
	if len(m.out)+length > m.limit {
		return api.ErrInfLimit
	}
	for range length {
		m.out = append(m.out, m.out[len(m.out)-distance])
	}
	return api.OK
}

// asInflate holds what stands behind the bytes data against what inflate says of them (P18.9).
func asInflate(t *testing.T, f *stream.Inflater, stands api.Errno, told, data []byte, limit int) {
	t.Helper()
	out, used, e := inflate.Inflate(data, limit)
	switch e {
	case api.OK:
		if (used+7)/8 < len(data) {
			e = api.ErrOver
		}
		if !f.Done() || f.Used() != used || !bytes.Equal(told, out) || stands != e {
			t.Errorf("of % x within %d: %q, %d, %v, %d, but inflate says %q, %d, %d", some(data), limit, some(told), stands, f.Done(), f.Used(), some(out), used, e)
		}
	case api.ErrInfEnd, api.ErrHeadEnd:
		if f.Done() || stands != api.OK {
			t.Errorf("of % x within %d: %d, %v, but inflate says %d", some(data), limit, stands, f.Done(), e)
		}
	default:
		if f.Done() || stands != e {
			t.Errorf("of % x within %d: %d, %v, but inflate says %d", some(data), limit, stands, f.Done(), e)
		}
	}
}

// same feeds the pieces, and holds what is told behind each of them against the model and against inflate, also where an error stands already: more bytes never turn it into another one. It tells the error that stands at the end.
func same(t *testing.T, limit int, pieces ...[]byte) api.Errno {
	t.Helper()
	f := begun(t, limit)
	var told, data []byte
	stands := api.OK
	for _, piece := range pieces {
		out, e := f.Feed(piece)
		if stands != api.OK && (len(out) > 0 || e != stands) {
			t.Errorf("of % x within %d: Feed = %q, %d, where %d stands", some(data), limit, some(out), e, stands)
		}
		told, data, stands = append(told, out...), append(data, piece...), e
		m, want := modelOf(data, limit)
		if !bytes.Equal(told, m.out) || e != want || f.Done() != m.done || f.Used() != m.used {
			t.Errorf("of % x within %d: %q, %d, %v, %d, want %q, %d, %v, %d", some(data), limit, some(told), e, f.Done(), f.Used(), some(m.out), want, m.done, m.used)
		}
		asInflate(t, f, e, told, data, limit)
	}
	ended(t, f, limit, told, stands, pieces)
	return stands
}

// ended holds what Finish, and Pipe of the same pieces, answer against what the feeding has told.
func ended(t *testing.T, f *stream.Inflater, limit int, told []byte, stands api.Errno, pieces [][]byte) {
	t.Helper()
	last := stands
	if stands == api.OK && !f.Done() {
		last = api.ErrInfEnd
	}
	finishes(t, f, last)
	done, used := f.Done(), f.Used()
	feeds(t, f, nil, "", last, done, used)
	if last == api.OK {
		pipes(t, limit, string(told), api.OK, pieces...)
		last = api.ErrOver
	} else {
		pipes(t, limit, "", last, pieces...)
	}
	feeds(t, f, []byte{3, 0}, "", last, done, used)
	finishes(t, f, last)
}

// single is a text cut into pieces of one byte each.
func single(data []byte) [][]byte {
	var pieces [][]byte
	for i := range data {
		pieces = append(pieces, data[i:i+1])
	}
	return pieces
}

// cut is a text cut into drawn pieces, some of them without bytes.
func cut(r *rand.Rand, data []byte, most int) [][]byte {
	var pieces [][]byte
	for at := 0; at < len(data); {
		n := min(r.Intn(1+most), len(data)-at)
		pieces = append(pieces, data[at:at+n])
		at += n
	}
	return pieces
}

// sameHoweverCut holds a text against the model byte by byte, as a whole, and cut as it is drawn.
func sameHoweverCut(t *testing.T, r *rand.Rand, data []byte, limit int) api.Errno {
	t.Helper()
	e := same(t, limit, single(data)...)
	if whole := same(t, limit, data); whole != e {
		t.Errorf("of % x within %d: %d byte by byte, %d as a whole", some(data), limit, e, whole)
	}
	if parts := same(t, limit, cut(r, data, 1+r.Intn(20))...); parts != e {
		t.Errorf("of % x within %d: %d byte by byte, %d in parts", some(data), limit, e, parts)
	}
	return e
}

// spoilt is a drawn text with a broken block in the place of the last one, or with some bits turned, cut off or added.
func spoilt(r *rand.Rand, s *speller) string {
	text := []byte(s.text())
	switch r.Intn(4) {
	case 0:
		for range r.Intn(2) {
			text[r.Intn(1+r.Intn(len(text)))] ^= 1
		}
	case 1:
		text[r.Intn(len(text))] ^= 1
	case 2:
		s = &speller{}
		for range r.Intn(3) {
			s.drawnBlock(r, false)
		}
		all := append(brokenHeaders(), brokenSymbols()...)
		text = append([]byte(s.text()), all[r.Intn(len(all))].text...)
	default:
		text = text[:r.Intn(1+len(text))]
	}
	return string(text) + row(r.Intn(1<<20), r.Intn(21)*r.Intn(2))
}

func TestDrawnTexts(t *testing.T) { // P18.2 to P18.10
	r := rand.New(rand.NewSource(181))
	seen := map[api.Errno]int{}
	for range 1000 {
		s := drawnText(r)
		size := len(s.plain)
		limit := []int{size, size, api.MaxCapacity, max(0, size-r.Intn(20)), r.Intn(size + 1), size + r.Intn(5)}[r.Intn(6)]
		seen[sameHoweverCut(t, r, bytesOf(spoilt(r, s)), limit)]++
	}
	for _, e := range []api.Errno{
		api.OK, api.ErrOver, api.ErrInfKind, api.ErrInfStored, api.ErrInfSymbol, api.ErrInfFar, api.ErrInfLimit,
		api.ErrHeadCounts, api.ErrHeadMeta, api.ErrHeadRepeat, api.ErrHeadOver, api.ErrHeadLit, api.ErrHeadDist,
	} {
		if seen[e] < 5 {
			t.Errorf("%d was drawn only %d times: %v", e, seen[e], seen)
		}
	}
}

func TestAnyBytes(t *testing.T) { // P18.2 to P18.10, P0.1
	r := rand.New(rand.NewSource(182))
	for range 6000 {
		data := make([]byte, r.Intn(40))
		r.Read(data)
		if len(data) > 0 && r.Intn(2) == 0 {
			data[0] = data[0]&^7 | byte(r.Intn(8))
		}
		sameHoweverCut(t, r, data, []int{0, 5, 300, api.MaxCapacity}[r.Intn(4)])
	}
}

func TestManyTwoBytes(t *testing.T) { // P18.2 to P18.10, P0.1
	for v := 0; v < 1<<16; v += 7 {
		data := []byte{byte(v), byte(v >> 8)}
		if v%3 == 0 {
			data = append(data, 0xAA, 0x55, byte(v*7), 0)
		}
		same(t, v%6, single(data)...)
	}
}

func TestEachItemAsItComes(t *testing.T) { // P18.10, P18.4: held against how the text was spelled, not against how it is read
	r := rand.New(rand.NewSource(183))
	for range 400 {
		s := drawnText(r)
		data := s.bytes()
		f := begun(t, len(s.plain))
		var told, want strings.Builder
		item, used := 0, 0
		for i := range data {
			out, e := f.Feed(data[i : i+1])
			told.Write(out)
			for item < len(s.items) && used+len(s.items[item].bits) <= 8*(i+1) {
				used += len(s.items[item].bits)
				want.WriteString(s.items[item].plain)
				item++
			}
			if e != api.OK || told.String() != want.String() || f.Used() != used || f.Done() != (item == len(s.items)) {
				t.Fatalf("behind the byte %d of % x: %q, %d, %d, %v, want %q, %d, %d items of %d", i, some(data), told.String(), e, f.Used(), f.Done(), want.String(), used, item, len(s.items))
			}
		}
		finishes(t, f, api.OK)
	}
}
