package squeeze_test

import (
	"math/rand"
	"slices"
	"testing"

	"valise/api"
	"valise/block"
	"valise/squeeze"
)

// pricesModel is the chapter's words of Prices.
func pricesModel(t *testing.T, tokens []api.Token) tariff {
	t.Helper()
	lit, dist, e := block.Trees(tokens)
	if e != api.OK {
		t.Fatalf("Trees = %d", e)
	}
	p := flat(15)
	for s, n := range lit {
		if n > 0 {
			p.lit[s] = n
		}
		if s > 256 {
			p.lit[s] += lengthMore(s)
		}
	}
	for s, n := range dist {
		if n > 0 {
			p.dist[s] = n
		}
		p.dist[s] += distMore(s)
	}
	return p
}

// priceModel is what tokens cost, one by one.
func priceModel(tokens []api.Token, p tariff) int {
	sum := 0
	for _, token := range tokens {
		sum += tokenPrice(token, p)
	}
	return sum
}

func tokenPrice(token api.Token, p tariff) int {
	if token.Len == 0 {
		return p.lit[token.Lit]
	}
	length, _, _, _ := block.LengthSymbol(token.Len)
	dist, _, _, _ := block.DistSymbol(token.Dist)
	return p.lit[length] + p.dist[dist]
}

// drawnPrices is prices that may be, close together or far apart.
func drawnPrices(r *rand.Rand) tariff {
	p := flat(1)
	most := []int{1, 2, 4, 12, 300, 65536}[r.Intn(6)]
	for s := range p.lit {
		p.lit[s] = 1 + r.Intn(most)
	}
	most = []int{1, 2, 4, 12, 300, 65536}[r.Intn(6)]
	for s := range p.dist {
		p.dist[s] = 1 + r.Intn(most)
	}
	return p
}

// drawnTokens is tokens that may be, of few sorts or of many.
func drawnTokens(r *rand.Rand) []api.Token {
	var tokens []api.Token
	kinds, longest, farthest := 1+r.Intn(256), []int{1, 9, 256}[r.Intn(3)], []int{1, 100, 32768}[r.Intn(3)]
	for range r.Intn([]int{2, 30, 2000}[r.Intn(3)]) {
		if r.Intn(3) > 0 {
			tokens = append(tokens, api.Token{Lit: byte(r.Intn(1 + r.Intn(kinds)))})
			continue
		}
		tokens = append(tokens, again(3+r.Intn(longest), 1+r.Intn(farthest)))
	}
	return tokens
}

func TestPrices(t *testing.T) { // P21.1, P21.2
	r := rand.New(rand.NewSource(210))
	for range 400 {
		tokens := drawnTokens(r)
		want := pricesModel(t, tokens)
		lit, dist, e := squeeze.Prices(tokens)
		if !slices.Equal(lit, want.lit) || !slices.Equal(dist, want.dist) || e != api.OK {
			t.Fatalf("Prices of %d tokens %v = %v, %v, %d, want %v", len(tokens), some(tokens), lit, dist, e, want)
		}
		for _, p := range []tariff{want, fixed(), drawnPrices(r)} {
			costs(t, tokens, p, priceModel(tokens, p))
		}
	}
}

func TestPriceOfEach(t *testing.T) { // P21.2: each token costs its own symbols' prices, and the end nothing
	p := flat(1)
	for s := range p.lit {
		p.lit[s] = 1 + 100*s
	}
	for s := range p.dist {
		p.dist[s] = 1 + 1000*s
	}
	for lit := range 256 {
		costs(t, []api.Token{{Lit: byte(lit)}}, p, 1+100*lit)
	}
	for length := 3; length <= 258; length++ {
		symbol, _, _, _ := block.LengthSymbol(length)
		costs(t, row(again(length, 4)), p, 1+100*symbol+3001)
	}
	for dist := 1; dist <= 32768; dist++ {
		symbol, _, _, _ := block.DistSymbol(dist)
		costs(t, row(again(258, dist)), p, 28501+1+1000*symbol)
	}
	costs(t, row("ab", again(3, 1), "b"), p, 9701+9801+25701+1+9801)
}

func TestPriceOfABlock(t *testing.T) { // P21.1: with the end and the header it is the block's size
	r := rand.New(rand.NewSource(211))
	for range 100 {
		tokens := drawnTokens(r)
		lit, dist, _ := squeeze.Prices(tokens)
		sum := price(t, tokens, tariff{lit, dist}) + lit[256]
		sizes, e := block.Measure(tokens, 0)
		if e == api.ErrBlockLong {
			continue
		}
		p := fixed()
		if fixedSize := 3 + price(t, tokens, p) + p.lit[256]; e != api.OK || sizes.Fixed != fixedSize || sizes.Dynamic <= sum {
			t.Errorf("%d tokens: %v; they cost %d dynamic, %d fixed", len(tokens), sizes, sum, fixedSize)
		}
	}
}

func TestUnlike(t *testing.T) { // P21.1, P21.2, P0.4: wherever the token stands
	p := fixed()
	for _, token := range unsound() {
		for _, tokens := range [][]api.Token{row(token), row("a", token), row(token, "a"), row("a", again(9, 1), token, "a"), row(token, token)} {
			if lit, dist, e := squeeze.Prices(tokens); lit != nil || dist != nil || e != api.ErrUnlike {
				t.Errorf("Prices(%v) = %v, %v, %d", tokens, lit, dist, e)
			}
			if n, e := squeeze.Price(tokens, p.lit, p.dist); n != 0 || e != api.ErrUnlike {
				t.Errorf("Price(%v) = %d, %d", tokens, n, e)
			}
			for _, q := range wrong() {
				if n, e := squeeze.Price(tokens, q.lit, q.dist); n != 0 || e != api.ErrPrice {
					t.Errorf("Price(%v) with wrong prices = %d, %d", tokens, n, e)
				}
			}
		}
	}
	for _, token := range []api.Token{{}, {Lit: 255}, again(3, 1), again(258, 32768), again(3, 32768), again(258, 1)} {
		if _, _, e := squeeze.Prices(row(token)); e != api.OK {
			t.Errorf("Prices(%v) = %d", token, e)
		}
		costs(t, row(token), flat(65536), 65536*(1+min(1, token.Len)))
	}
}

func TestWrongPrices(t *testing.T) { // P21.2, P21.3: the bounds themselves are within
	for _, q := range wrong() {
		for _, tokens := range [][]api.Token{nil, row("a"), row("a", again(9, 1))} {
			if n, e := squeeze.Price(tokens, q.lit, q.dist); n != 0 || e != api.ErrPrice {
				t.Errorf("Price with %d and %d prices = %d, %d", len(q.lit), len(q.dist), n, e)
			}
		}
	}
	for _, p := range []tariff{flat(1), flat(65536), flat(1).with(0, 65536).far(29, 65536), flat(65536).with(285, 1).far(0, 1)} {
		costs(t, row("\x00", again(258, 1)), p, p.lit[0]+p.lit[285]+p.dist[0])
		taken(t, "\x00", 1, p, row("\x00"))
	}
}

func TestManyTokens(t *testing.T) { // P21.1, P21.2: too many of them come ahead of all else
	p := fixed()
	tokens := make([]api.Token, api.MaxCapacity+1)
	costs(t, tokens[1:], flat(65536), 65536*api.MaxCapacity)
	if lit, _, e := squeeze.Prices(tokens[1:]); e != api.OK || lit[0] != 1 || lit[256] != 1 {
		t.Errorf("Prices of MaxCapacity tokens = %v, %d", lit, e)
	}
	for range 2 {
		if lit, dist, e := squeeze.Prices(tokens); lit != nil || dist != nil || e != api.ErrArg {
			t.Errorf("Prices = %v, %v, %d", lit, dist, e)
		}
		for _, q := range append(wrong(), p) {
			if n, e := squeeze.Price(tokens, q.lit, q.dist); n != 0 || e != api.ErrArg {
				t.Errorf("Price = %d, %d", n, e)
			}
		}
		tokens[9].Len = 2
	}
}
