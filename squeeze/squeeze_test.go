package squeeze_test

import (
	"bytes"
	"math/rand"
	"slices"
	"strings"
	"sync"
	"testing"

	"valise/api"
	"valise/match"
	"valise/squeeze"
)

// again is a copy of so many bytes from so far back.
func again(length, dist int) api.Token { return api.Token{Len: length, Dist: dist} }

// row is tokens: a text stands for the literals of its bytes.
func row(parts ...any) []api.Token {
	var tokens []api.Token
	for _, part := range parts {
		switch v := part.(type) {
		case string:
			for i := range len(v) {
				tokens = append(tokens, api.Token{Lit: v[i]})
			}
		case api.Token:
			tokens = append(tokens, v)
		case []api.Token:
			tokens = append(tokens, v...)
		}
	}
	return tokens
}

// unsound is tokens that may not be.
func unsound() []api.Token {
	return []api.Token{
		again(1, 1), again(2, 1), again(259, 1), again(-3, 1), again(1<<32+3, 1), again(3, 0), again(3, 32769), again(3, -1), again(258, 1<<32+1),
		{Dist: 1}, {Dist: -1}, {Len: 1}, {Len: -1}, {Len: 3, Dist: 1, Lit: 1}, {Dist: 1, Lit: 7}, {Len: 3, Lit: 7},
	}
}

// some is the beginning of a list, to be shown.
func some[T any](list []T) []T { return list[:min(len(list), 40)] }

// tariff is prices: of literals and lengths, and of distances.
type tariff struct {
	lit, dist []int
}

// flat is prices that are all n.
func flat(n int) tariff { return tariff{slices.Repeat([]int{n}, 286), slices.Repeat([]int{n}, 30)} }

// lengthMore and distMore tell how many further bits a symbol has, by the chapter's tables.
func lengthMore(symbol int) int {
	if symbol < 265 || symbol == 285 {
		return 0
	}
	return (symbol - 261) / 4
}

func distMore(symbol int) int { return max(0, symbol/2-1) }

// fixed is the prices of the fixed code.
func fixed() tariff {
	p := flat(8)
	for s := range p.lit {
		switch {
		case s >= 280:
			p.lit[s] = 8 + lengthMore(s)
		case s >= 256:
			p.lit[s] = 7 + lengthMore(s)
		case s >= 144:
			p.lit[s] = 9
		}
	}
	for s := range p.dist {
		p.dist[s] = 5 + distMore(s)
	}
	return p
}

// with is the prices with another one for a symbol of literals and lengths.
func (p tariff) with(symbol, price int) tariff {
	p.lit = slices.Clone(p.lit)
	p.lit[symbol] = price
	return p
}

// far is the prices with another one for a symbol of distances.
func (p tariff) far(symbol, price int) tariff {
	p.dist = slices.Clone(p.dist)
	p.dist[symbol] = price
	return p
}

// wrong is prices that may not be.
func wrong() []tariff {
	const least, most = -1 << 63, 1<<63 - 1
	p := flat(8)
	list := []tariff{
		{nil, nil}, {p.lit, nil}, {nil, p.dist}, {p.lit[:285], p.dist}, {p.lit, p.dist[:29]}, {slices.Concat(p.lit, []int{8}), p.dist}, {p.lit, slices.Concat(p.dist, []int{8})}, {p.dist, p.lit},
	}
	for _, price := range []int{least, -1, 0, 65537, 1<<32 + 1, most} {
		list = append(list, p.with(0, price), p.with(256, price), p.with(285, price), p.far(0, price), p.far(29, price))
	}
	return list
}

// taken asks for the cheapest tokens of a text.
func taken(t *testing.T, text string, window int, p tariff, want []api.Token) {
	t.Helper()
	if got := cheapest(t, text, window, p); !slices.Equal(got, want) {
		t.Errorf("Cheapest of %d bytes %q, window %d = %d tokens %v, want %d tokens %v", len(text), some([]byte(text)), window, len(got), some(got), len(want), some(want))
	}
}

// cheapest is what Cheapest answers, which always says the text by copies from within the window.
func cheapest(t *testing.T, text string, window int, p tariff) []api.Token {
	t.Helper()
	tokens, e := squeeze.Cheapest([]byte(text), window, p.lit, p.dist)
	said, f := match.Expand(tokens, len(text))
	if e != api.OK || f != api.OK || string(said) != text {
		t.Fatalf("Cheapest of %d bytes %q, window %d: %d, and it says %q, %d", len(text), some([]byte(text)), window, e, some(said), f)
	}
	for _, token := range tokens {
		if token.Dist > window {
			t.Fatalf("Cheapest of %d bytes, window %d, has %v", len(text), window, token)
		}
	}
	return tokens
}

// costs asks for the price of tokens.
func costs(t *testing.T, tokens []api.Token, p tariff, want int) {
	t.Helper()
	if got := price(t, tokens, p); got != want {
		t.Errorf("Price of %d tokens %v = %d, want %d", len(tokens), some(tokens), got, want)
	}
}

func price(t *testing.T, tokens []api.Token, p tariff) int {
	t.Helper()
	n, e := squeeze.Price(tokens, p.lit, p.dist)
	if e != api.OK {
		t.Fatalf("Price of %d tokens %v: %d", len(tokens), some(tokens), e)
	}
	return n
}

// squeezed is what Squeeze answers.
func squeezed(t *testing.T, text string, rounds int) string {
	t.Helper()
	packed, e := squeeze.Squeeze([]byte(text), rounds)
	if e != api.OK {
		t.Fatalf("Squeeze of %d bytes %q, %d rounds: %d", len(text), some([]byte(text)), rounds, e)
	}
	return string(packed)
}

// noise is n bytes of which none can be foretold.
func noise(seed int64, n int) string {
	data := make([]byte, n)
	rand.New(rand.NewSource(seed)).Read(data)
	return string(data)
}

// letters is n letters of so many.
func letters(seed int64, n, kinds int) string {
	r := rand.New(rand.NewSource(seed))
	data := make([]byte, n)
	for i := range data {
		data[i] = byte('a' + r.Intn(kinds))
	}
	return string(data)
}

// texts is one text of each sort.
func texts() []string {
	return []string{
		"", "a", "ab", "aaaa", "abcabcabd", noise(1, 1), noise(2, 300), letters(3, 700, 2), letters(4, 900, 5),
		strings.Repeat("the shirt and the book and the maps. ", 30), strings.Repeat("x", 1500), noise(5, 700) + strings.Repeat("plain ", 99) + noise(5, 700),
	}
}

func TestRefused(t *testing.T) { // P21.3, P21.6, P0.4: what is no argument is told ahead of prices that may not be
	p := fixed()
	for _, window := range []int{-1 << 63, -1, 0, 32769, 1 << 32, 1<<32 + 1, 1<<63 - 1} {
		for _, q := range append(wrong(), p) {
			if tokens, e := squeeze.Cheapest([]byte("aaaa"), window, q.lit, q.dist); tokens != nil || e != api.ErrArg {
				t.Errorf("Cheapest with the window %d = %v, %d", window, tokens, e)
			}
		}
	}
	for _, n := range []int{65537, 65538, 1 << 20, api.MaxCapacity + 1} {
		for _, q := range append(wrong(), p) {
			if tokens, e := squeeze.Cheapest(make([]byte, n), 1, q.lit, q.dist); tokens != nil || e != api.ErrArg {
				t.Errorf("Cheapest of %d bytes = %v, %d", n, some(tokens), e)
			}
		}
		for rounds := range 16 {
			if packed, e := squeeze.Squeeze(make([]byte, n), rounds); packed != nil || e != api.ErrArg {
				t.Errorf("Squeeze of %d bytes = %x, %d", n, some(packed), e)
			}
		}
	}
	for _, rounds := range []int{-1 << 63, -16, -1, 16, 17, 1 << 32, 1<<63 - 1} {
		for _, text := range texts() {
			if packed, e := squeeze.Squeeze([]byte(text), rounds); packed != nil || e != api.ErrArg {
				t.Errorf("Squeeze of %d bytes, %d rounds = %x, %d", len(text), rounds, some(packed), e)
			}
		}
	}
	for _, q := range wrong() {
		for _, text := range texts() {
			if tokens, e := squeeze.Cheapest([]byte(text), 32768, q.lit, q.dist); tokens != nil || e != api.ErrPrice {
				t.Errorf("Cheapest of %d bytes with %d and %d prices = %v, %d", len(text), len(q.lit), len(q.dist), some(tokens), e)
			}
		}
	}
}

func TestNilIsEmpty(t *testing.T) { // P0.2
	p := fixed()
	for _, data := range [][]byte{nil, {}, []byte("abc")[:0]} {
		if tokens, e := squeeze.Cheapest(data, 1, p.lit, p.dist); len(tokens) != 0 || e != api.OK {
			t.Errorf("Cheapest of nothing = %v, %d", tokens, e)
		}
		for _, none := range [][]int{nil, {}, p.lit[:0]} {
			if tokens, e := squeeze.Cheapest(data, 1, none, none); tokens != nil || e != api.ErrPrice {
				t.Errorf("Cheapest of nothing without prices = %v, %d", tokens, e)
			}
		}
		for rounds := range 16 {
			if packed, e := squeeze.Squeeze(data, rounds); string(packed) != "\x03\x00" || e != api.OK {
				t.Errorf("Squeeze of nothing, %d rounds = %x, %d", rounds, packed, e)
			}
		}
	}
	for _, tokens := range [][]api.Token{nil, {}, row("abc")[:0]} {
		costs(t, tokens, p, 0)
		lit, dist, e := squeeze.Prices(tokens)
		if lit[256] != 1 || lit[0] != 15 || lit[284] != 20 || dist[0] != 15 || dist[29] != 28 || e != api.OK {
			t.Errorf("Prices of nothing = %v, %v, %d", lit, dist, e)
		}
	}
}

// roomy is a list with room behind its end that is not to be touched, and what it is with that room.
func roomy[T any](list []T, fill T) ([]T, []T) {
	whole := slices.Concat(list, slices.Repeat([]T{fill}, 300))
	return whole[:len(list)], slices.Clone(whole)
}

// spoil writes over a list and over the room behind its end.
func spoil[T any](list []T, v T) {
	list = list[:cap(list)]
	for i := range list {
		list[i] = v
	}
}

func TestArgumentsStay(t *testing.T) { // P0.3: also what lies behind a list's end
	p := fixed()
	lit, allLit := roomy(p.lit, 3)
	dist, allDist := roomy(p.dist, 3)
	for _, text := range texts() {
		data, all := roomy([]byte(text), 'z')
		squeeze.Squeeze(data, 2)
		given, _ := squeeze.Cheapest(data, 32768, lit, dist)
		tokens, allTokens := roomy(given, again(7, 7))
		squeeze.Price(tokens, lit, dist)
		squeeze.Prices(tokens)
		if !bytes.Equal(data[:len(all)], all) || !slices.Equal(tokens[:len(allTokens)], allTokens) {
			t.Errorf("%q has changed", some([]byte(text)))
		}
	}
	if !slices.Equal(lit[:len(allLit)], allLit) || !slices.Equal(dist[:len(allDist)], allDist) {
		t.Errorf("the prices have changed")
	}
}

func TestAnswersAreNew(t *testing.T) { // P0.3, P0.7
	for _, text := range texts() {
		data, p, whole := []byte(text), fixed(), squeezed(t, text, 3)
		want := cheapest(t, text, 300, p)
		got, _ := squeeze.Cheapest(data, 300, p.lit, p.dist)
		packed, _ := squeeze.Squeeze(data, 3)
		lit, dist, _ := squeeze.Prices(want)
		wantLit, wantDist := slices.Clone(lit), slices.Clone(dist)
		other, _ := squeeze.Cheapest(data, 300, p.lit, p.dist)
		spoil(other, again(5, 5))
		spoil(data, 'z')
		spoil(p.lit, 3)
		spoil(p.dist, 3)
		spoil([]byte(squeezed(t, text, 3)), 99)
		if !slices.Equal(got, want) || string(packed) != whole {
			t.Errorf("what was answered for %q has changed", some([]byte(text)))
		}
		spoil(lit, 77)
		if !slices.Equal(dist, wantDist) {
			t.Errorf("the prices of literals and of distances share memory")
		}
		spoil(dist, 77)
		spoil(packed, 99)
		if lit, dist, _ = squeeze.Prices(want); !slices.Equal(lit, wantLit) || !slices.Equal(dist, wantDist) || squeezed(t, text, 3) != whole {
			t.Errorf("a later answer for %q has changed", some([]byte(text)))
		}
	}
}

func TestSideBySide(t *testing.T) { // P0.7: no call hangs on another one
	var group sync.WaitGroup
	for _, text := range texts() {
		want, tokens := squeezed(t, text, 4), cheapest(t, text, 32768, fixed())
		group.Go(func() {
			for range 3 {
				p := fixed()
				packed, _ := squeeze.Squeeze([]byte(text), 4)
				got, _ := squeeze.Cheapest([]byte(text), 32768, p.lit, p.dist)
				if string(packed) != want || !slices.Equal(got, tokens) {
					t.Errorf("other answers for %q", some([]byte(text)))
				}
			}
		})
	}
	group.Wait()
}
