package squeeze_test

import (
	"testing"

	"valise/api"
	"valise/squeeze"
)

func TestExampleCheapest(t *testing.T) { // examples 1 and 2
	p := fixed()
	taken(t, "aaaa", 32768, p, row("a", again(3, 1)))
	costs(t, cheapest(t, "aaaa", 32768, p), p, 20)
	dear := p.far(0, 100)
	taken(t, "aaaa", 32768, dear, row("aaaa"))
	costs(t, cheapest(t, "aaaa", 32768, dear), dear, 32)
	taken(t, "abcdabcdabc", 32768, p, row("abcd", again(7, 4)))
	costs(t, cheapest(t, "abcdabcdabc", 32768, p), p, 44)
}

func TestExampleEqual(t *testing.T) { // examples 3 and 4
	taken(t, "abcabcabc", 32768, flat(1), row("abc", again(6, 3)))
	taken(t, "aaaaaaaa", 32768, flat(1), row("a", again(7, 1)))
	taken(t, "abcXabcYabc", 32768, flat(1), row("abcX", again(3, 4), "Y", again(3, 4)))
}

func TestExamplePrices(t *testing.T) { // example 5
	lit, dist, e := squeeze.Prices(row("a", again(9, 1)))
	if len(lit) != 286 || len(dist) != 30 || e != api.OK {
		t.Fatalf("Prices = %d and %d numbers, %d", len(lit), len(dist), e)
	}
	special := map[int]int{97: 2, 256: 2, 263: 1, 265: 16, 284: 20, 285: 15}
	for s := range 256 {
		if special[s] == 0 {
			special[s] = 15
		}
	}
	for s, n := range special {
		if lit[s] != n {
			t.Errorf("the symbol %d costs %d, want %d", s, lit[s], n)
		}
	}
	for s, n := range map[int]int{0: 1, 1: 15, 4: 16, 29: 28} {
		if dist[s] != n {
			t.Errorf("the distance's symbol %d costs %d, want %d", s, dist[s], n)
		}
	}
}

func TestExamplePrice(t *testing.T) { // example 6
	p := fixed()
	costs(t, nil, p, 0)
	costs(t, row(again(12, 6)), p, 14)
	if n, e := squeeze.Price(nil, p.lit[:285], p.dist); n != 0 || e != api.ErrPrice {
		t.Errorf("Price with 285 prices = %d, %d", n, e)
	}
	for _, q := range []tariff{p.with(5, 0), p.with(5, 65537), p.far(5, 0), p.far(5, 65537)} {
		if tokens, e := squeeze.Cheapest([]byte("aaaa"), 1, q.lit, q.dist); tokens != nil || e != api.ErrPrice {
			t.Errorf("Cheapest with a wrong price = %v, %d", tokens, e)
		}
	}
	if tokens, e := squeeze.Cheapest([]byte("aaaa"), 0, p.lit, p.dist); tokens != nil || e != api.ErrArg {
		t.Errorf("Cheapest with the window 0 = %v, %d", tokens, e)
	}
}

func TestExampleSqueeze(t *testing.T) { // example 7
	if got := squeezed(t, "", 3); got != "\x03\x00" {
		t.Errorf("Squeeze of nothing = %x", got)
	}
	if packed, e := squeeze.Squeeze([]byte("aaaa"), 16); packed != nil || e != api.ErrArg {
		t.Errorf("Squeeze with 16 rounds = %x, %d", packed, e)
	}
}
