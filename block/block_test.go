package block_test

import (
	"math/rand"
	"slices"
	"strings"
	"sync"
	"testing"

	"valise/api"
	"valise/bits"
	"valise/block"
)

// again is a copy of so many bytes from so far back.
func again(length, dist int) api.Token { return api.Token{Len: length, Dist: dist} }

// row is tokens: a text stands for the literals of its bytes.
func row(parts ...any) []api.Token {
	var tokens []api.Token
	for _, part := range parts {
		switch v := part.(type) {
		case string:
			for i := range len(v) {
				tokens = append(tokens, api.Token{Lit: v[i]})
			}
		case api.Token:
			tokens = append(tokens, v)
		case []api.Token:
			tokens = append(tokens, v...)
		}
	}
	return tokens
}

// ten is the tokens of the chapter's examples: ten bytes a.
func ten() []api.Token { return row("a", again(9, 1)) }

// saying is tokens that say just n bytes: long copies, and literals for what is left.
func saying(n int) []api.Token {
	return row(slices.Repeat(row(again(258, 1)), n/258), strings.Repeat("z", n%258))
}

// all is one literal of each byte, one copy of each length, and one from each distance's least and greatest.
func all() []api.Token {
	var tokens []api.Token
	for lit := range 256 {
		tokens = append(tokens, api.Token{Lit: byte(lit)})
	}
	for length := 3; length <= 258; length++ {
		tokens = append(tokens, again(length, 1))
	}
	for _, s := range distTable() {
		tokens = append(tokens, again(3, s.from), again(3, s.to))
	}
	return tokens
}

// unsound is tokens that may not be.
func unsound() []api.Token {
	const least, most = -1 << 63, 1<<63 - 1
	tokens := []api.Token{{Len: 3, Dist: 1, Lit: 1}, {Len: 258, Dist: 1, Lit: 255}, {Len: 3, Dist: 32768, Lit: 128}, {Dist: 1, Lit: 7}, {Len: 1, Lit: 7}}
	for _, length := range []int{least, -258, -3, -1, 1, 2, 259, 1 << 32, 1<<32 + 3, most} {
		for _, dist := range []int{0, 1, 32768} {
			tokens = append(tokens, again(length, dist))
		}
	}
	for _, dist := range []int{least, -32768, -1, 32769, 1 << 32, 1<<32 + 1, most} {
		for _, length := range []int{0, 3, 258} {
			tokens = append(tokens, again(length, dist))
		}
	}
	return append(tokens, again(3, 0), again(258, 0))
}

// size is how many bytes tokens say.
func size(tokens []api.Token) int {
	n := 0
	for _, token := range tokens {
		n += max(1, token.Len)
	}
	return n
}

// some is the beginning of a list, to be shown.
func some[T any](list []T) []T { return list[:min(len(list), 40)] }

// figure is a number's n bits, the lowest first, as a text of 0 and 1.
func figure(v, n int) string {
	var text strings.Builder
	for i := range n {
		text.WriteByte("01"[v>>i&1])
	}
	return text.String()
}

// put is a writer that holds these bits.
func put(text string) *bits.Writer {
	w := bits.NewWriter()
	for _, bit := range text {
		w.Put(uint32(bit-'0'), 1)
	}
	return w
}

// held is the bits that a writer holds.
func held(w *bits.Writer) string {
	var text strings.Builder
	for _, b := range w.Bytes() {
		text.WriteString(figure(int(b), 8))
	}
	return text.String()[:w.Len()]
}

func counted(t *testing.T, tokens []api.Token) (lit, dist []int) {
	t.Helper()
	lit, dist, e := block.Count(tokens)
	if e != api.OK || len(lit) != 286 || len(dist) != 30 {
		t.Fatalf("Count(%v) = %v, %v, %d", some(tokens), lit, dist, e)
	}
	return lit, dist
}

func treed(t *testing.T, tokens []api.Token) (lit, dist []int) {
	t.Helper()
	lit, dist, e := block.Trees(tokens)
	if e != api.OK || len(lit) != 286 || len(dist) != 30 {
		t.Fatalf("Trees(%v) = %v, %v, %d", some(tokens), lit, dist, e)
	}
	return lit, dist
}

func measured(t *testing.T, tokens []api.Token, at int) api.Sizes {
	t.Helper()
	s, e := block.Measure(tokens, at)
	if e != api.OK {
		t.Fatalf("Measure(%v, %d) = %v, %d", some(tokens), at, s, e)
	}
	return s
}

// writtenOf is the bits that Write puts behind others.
func writtenOf(t *testing.T, ahead string, tokens []api.Token, raw string, kind int, final bool) string {
	t.Helper()
	w := put(ahead)
	e := block.Write(w, tokens, []byte(raw), kind, final)
	text := held(w)
	if e != api.OK || !strings.HasPrefix(text, ahead) {
		t.Fatalf("Write(%v, %q, %d) behind %s = %d, %s", some(tokens), some([]byte(raw)), kind, ahead, e, text[:min(len(text), 80)])
	}
	return text[len(ahead):]
}

// writeFails asks for an error with which nothing is put.
func writeFails(t *testing.T, tokens []api.Token, raw []byte, kind int, want api.Errno) {
	t.Helper()
	for _, final := range []bool{false, true} {
		w := put("101")
		if e := block.Write(w, tokens, raw, kind, final); e != want || held(w) != "101" {
			t.Errorf("Write(%v, %q, %d) = %d, want %d; %d bits", some(tokens), some(raw), kind, e, want, w.Len())
		}
	}
}

// countFails asks Count and Trees alike.
func countFails(t *testing.T, tokens []api.Token, want api.Errno) {
	t.Helper()
	if lit, dist, e := block.Count(tokens); lit != nil || dist != nil || e != want {
		t.Errorf("Count(%v) = %v, %v, %d, want %d", some(tokens), lit, dist, e, want)
	}
	if lit, dist, e := block.Trees(tokens); lit != nil || dist != nil || e != want {
		t.Errorf("Trees(%v) = %v, %v, %d, want %d", some(tokens), lit, dist, e, want)
	}
}

func measureFails(t *testing.T, tokens []api.Token, at int, want api.Errno) {
	t.Helper()
	if s, e := block.Measure(tokens, at); s != (api.Sizes{}) || e != want {
		t.Errorf("Measure(%v, %d) = %v, %d, want %d", some(tokens), at, s, e, want)
	}
}

func TestNilWriter(t *testing.T) { // P10.7, P0.6: ahead of all other errors
	for kind := -1; kind <= 3; kind++ {
		for _, tokens := range [][]api.Token{nil, row("a"), row(again(2, 1)), saying(65536)} {
			if e := block.Write(nil, tokens, []byte("a"), kind, true); e != api.ErrArg {
				t.Errorf("Write to nil of the kind %d = %d", kind, e)
			}
		}
	}
	for kind := range 3 {
		w := &bits.Writer{}
		if e := block.Write(w, row("a"), []byte("a"), kind, true); e != api.OK || held(w) != writtenOf(t, "", row("a"), "a", kind, true) {
			t.Errorf("Write to a bare writer = %d, %s", e, held(w))
		}
	}
}

func TestNilIsEmpty(t *testing.T) { // P0.2
	for _, tokens := range [][]api.Token{nil, {}, row("a")[:0]} {
		lit, dist := counted(t, tokens)
		if lit[256] != 1 || slices.Max(lit) != 1 || slices.Max(dist) != 0 {
			t.Errorf("Count of nothing = %v, %v", lit, dist)
		}
		lit, dist = treed(t, tokens)
		if lit[256] != 1 || slices.Max(dist) != 0 {
			t.Errorf("Trees of nothing = %v, %v", lit, dist)
		}
		if s := measured(t, tokens, 0); s != (api.Sizes{Stored: 40, Fixed: 10, Dynamic: 92}) {
			t.Errorf("Measure of nothing = %v", s)
		}
		for kind := range 3 {
			v, w := bits.NewWriter(), bits.NewWriter()
			e, f := block.Write(v, tokens, nil, kind, true), block.Write(w, tokens, []byte{}, kind, true)
			if e != api.OK || f != api.OK || held(v) != held(w) || held(v) != writtenOf(t, "", nil, "", kind, true) {
				t.Errorf("Write of nothing = %d, %s and %d, %s", e, held(v), f, held(w))
			}
		}
	}
}

// roomy is a list with room behind its end that is not to be touched, and what it is with that room.
func roomy[T any](list []T, fill T) ([]T, []T) {
	whole := slices.Concat(list, slices.Repeat([]T{fill}, 300))
	return whole[:len(list)], slices.Clone(whole)
}

// spoil writes over a list and over the room behind its end.
func spoil[T any](list []T, v T) {
	list = list[:cap(list)]
	for i := range list {
		list[i] = v
	}
}

func TestArgumentsStay(t *testing.T) { // P0.3: also what lies behind a list's end
	for _, given := range [][]api.Token{nil, ten(), all(), row("ab", again(2, 1)), saying(65536)} {
		tokens, allTokens := roomy(given, again(7, 7))
		raw, allRaw := roomy([]byte(strings.Repeat("x", size(given))), 'y')
		block.Count(tokens)
		block.Trees(tokens)
		block.Measure(tokens, 3)
		for kind := range 3 {
			block.Write(put("1"), tokens, raw, kind, true)
		}
		if !slices.Equal(tokens[:len(allTokens)], allTokens) || !slices.Equal(raw[:len(allRaw)], allRaw) {
			t.Errorf("%v or its bytes have changed", some(given))
		}
	}
}

func TestAnswersAreNew(t *testing.T) { // P0.3
	calls := []func([]api.Token) ([]int, []int, api.Errno){block.Count, block.Trees}
	for i, call := range calls {
		tokens := all()
		wantLit, wantDist, _ := call(all())
		keptLit, keptDist := slices.Clone(wantLit), slices.Clone(wantDist)
		lit, dist, _ := call(tokens)
		spoil(tokens, again(3, 9))
		spoil(wantLit, 99)
		spoil(wantDist, 99)
		if !slices.Equal(lit, keptLit) || !slices.Equal(dist, keptDist) {
			t.Errorf("call %d: the answer has become %v, %v", i, lit, dist)
		}
		spoil(lit, 99)
		if !slices.Equal(dist, keptDist) {
			t.Errorf("call %d: the distances have changed with the literals: %v", i, dist)
		}
		lit, dist, _ = call(all())
		spoil(dist, 99)
		if !slices.Equal(lit, keptLit) {
			t.Errorf("call %d: the literals have changed with the distances: %v", i, lit)
		}
	}
}

func TestRawIsNotKept(t *testing.T) { // P0.3: what its owner does to it later doesn't show
	w, raw := put("1"), []byte("hello")
	block.Write(w, row("hello"), raw, api.KindStored, true)
	before := held(w)
	spoil(raw, 'z')
	if held(w) != before {
		t.Errorf("%s has become %s", before, held(w))
	}
}

func TestSideBySide(t *testing.T) { // P0.7: how goroutines run is not to be seen
	r := rand.New(rand.NewSource(100))
	rows := [][]api.Token{nil, ten(), all(), drawn(r), drawn(r)}
	var group sync.WaitGroup
	for k := range 15 {
		tokens := rows[k%len(rows)]
		s := measured(t, tokens, k)
		raw := strings.Repeat("x", size(tokens))
		text := writtenOf(t, "", tokens, raw, k%3, true)
		group.Go(func() {
			for range 5 {
				if got, e := block.Measure(tokens, k); got != s || e != api.OK {
					t.Errorf("Measure(%v, %d) = %v, %d", some(tokens), k, got, e)
				}
				w := bits.NewWriter()
				if e := block.Write(w, tokens, []byte(raw), k%3, true); e != api.OK || held(w) != text {
					t.Errorf("Write(%v, %d) = %d, %d bits", some(tokens), k%3, e, w.Len())
				}
			}
		})
	}
	group.Wait()
}
