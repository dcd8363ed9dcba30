package squeeze_test

import (
	"math/rand"
	"slices"
	"strings"
	"testing"

	"valise/api"
	"valise/block"
	"valise/match"
)

// fresh is n bytes in which no three stand twice.
func fresh(seed int64, n int) string {
	r := rand.New(rand.NewSource(seed))
	seen := map[[3]byte]int{}
	data := []byte{byte(seed), 1}
	for len(data) < n {
		next := append(slices.Clone(data[len(data)-2:]), byte(r.Intn(256)))
		if key := [3]byte(next); seen[key] == 0 {
			seen[key]++
			data = append(data, key[2])
		}
	}
	return string(data[:n])
}

func TestEachDistance(t *testing.T) { // P21.3: the least and the greatest of each symbol, and the windows around them
	for symbol := range 30 {
		near, _ := block.DistOf(symbol, 0)
		far, _ := block.DistOf(symbol, 1<<distMore(symbol)-1)
		for _, d := range []int{near, far} {
			text := fresh(int64(d), d)
			text += text[:min(d, 10)]
			for len(text) < d+10 {
				text += text[len(text)-d:][:1]
			}
			lits := row(text[:d])
			for _, window := range []int{d, min(d+1, 32768)} {
				taken(t, text, window, flat(5), row(lits, again(10, d)))
			}
			if window := d - 1; window > 0 && d > 10 {
				taken(t, text, window, flat(5), row(text))
			}
			dear := flat(5).far(symbol, 46) // with the length 51: one more than ten literals
			if d > 10 {
				taken(t, text, 32768, dear, row(text))
				taken(t, text, 32768, dear.far(symbol, 45), row(lits, again(10, d)))
			}
		}
	}
}

func TestEachLength(t *testing.T) { // P21.3: all that is there is taken, up to 258
	head := fresh(7, 300)
	for n := range 300 {
		want := row(head, head[:n])
		switch {
		case n >= 261:
			want = row(head, again(258, 300), again(n-258, 300))
		case n > 258:
			want = row(head, again(258, 300), head[258:n])
		case n >= 3:
			want = row(head, again(n, 300))
		}
		taken(t, head+head[:n], 32768, flat(5), want)
	}
}

func TestLengthsPrices(t *testing.T) { // P21.3: a length that costs less may be worth a literal, or a second copy
	head := fresh(8, 100)
	p := flat(5)
	taken(t, head+head[:12], 32768, p.with(265, 100), row(head, again(10, 100), head[10:12])) // 12 costs 105; 10 and two literals 20
	taken(t, head+head[:13], 32768, p.with(266, 10), row(head, again(13, 100)))               // 15, as 12 and a literal: the longest
	taken(t, head+head[:13], 32768, p.with(266, 11), row(head, again(12, 100), head[12:13]))
	taken(t, head+head[:13], 32768, p.with(266, 16).with(265, 11), row(head, again(10, 100), again(3, 100))) // 20, as 9 and 4 too: the longest first
	taken(t, head+head[:13], 32768, p.with(266, 15).with(265, 11), row(head, again(13, 100)))
	taken(t, head+head[:3], 32768, p.with(257, 10), row(head, again(3, 100))) // 15 as three literals: the longest
	taken(t, head+head[:3], 32768, p.with(257, 11), row(head, head[:3]))
}

func TestEqualCosts(t *testing.T) { // P21.3: of one length the least distance, across the symbols that cost the same
	text := "abcdef" + "1" + "abcdef" + "22" + "abcdef" + "333333333" + "abcdef" // at 30 from 15, 23 and 30 back: the symbols 7, 8 and 9
	p := flat(5)
	head := row("abcdef", "1", again(6, 7), "22", again(6, 8))
	want := func(d int) []api.Token { return row(head, "333333333", again(6, d)) }
	nines := p.with('3', 1) // so that the threes are no copy
	taken(t, text, 32768, nines, want(15))
	taken(t, text, 32768, nines.far(7, 6), want(23))
	taken(t, text, 32768, nines.far(8, 4), want(23))
	taken(t, text, 32768, nines.far(9, 4), want(30))
	taken(t, text, 32768, nines.far(7, 6).far(8, 6), want(30))
	taken(t, text, 32768, nines.far(9, 4).far(8, 4), want(23))
	taken(t, text, 29, nines.far(9, 4), want(15))
	taken(t, "abcXYabcZabc", 32768, p, row("abcXY", again(3, 5), "Z", again(3, 4)))
	near := "abcd" + "1" + "abcd" + "2" + "abcd" + "3" + "abcd" // from 5, 10 and 15 back
	taken(t, near, 32768, p, row("abcd1", again(4, 5), "2", again(4, 5), "3", again(4, 5)))
	taken(t, near, 32768, p.far(4, 6), row("abcd1", again(4, 5), "2", again(4, 10), "3", again(4, 10)))
	same := "abcd" + "12345678" + "abcd" + "pqrstuvw" + "ijklabcd" // from 16 and 28 back, and one symbol has 17 to 24
	taken(t, same, 32768, p, row("abcd12345678", again(4, 12), "pqrstuvwijkl", again(4, 16)))
}

func TestOneSymbolsDistances(t *testing.T) { // P21.3: of the distances of one symbol the least from which so many bytes come
	text := "abcdefgh" + "1" + "abcd" + "2" + "abcdef" + "3" + fresh(9, 40) // at 61: 61, 52 and 47 back; 49 to 64 is one symbol
	p := flat(5).far(11, 1)
	head := cheapest(t, text, 32768, p)
	for n, d := range map[int]int{3: 52, 4: 52, 5: 61, 6: 61, 7: 61, 8: 61} {
		got := cheapest(t, text+"abcdefgh"[:n], 32768, p)
		if last := got[len(got)-1]; last != again(n, d) || !slices.Equal(got[:len(got)-1], head) {
			t.Errorf("of %d bytes %v is the last of %d tokens, want a copy from %d back", n, last, len(got), d)
		}
	}
}

func TestGreatestTexts(t *testing.T) { // P21.3: of 65536 bytes
	zeros := strings.Repeat("\x00", 65536)
	taken(t, zeros, 32768, flat(1), row("\x00", slices.Repeat(row(again(258, 1)), 254), again(3, 1)))
	taken(t, zeros, 32768, flat(1).far(0, 2), row("\x00", again(258, 1), slices.Repeat(row(again(258, 2)), 253), again(3, 2)))
	taken(t, zeros, 32768, flat(1).far(0, 3), row("\x00\x00", slices.Repeat(row(again(258, 2)), 254), "\x00\x00"))
	taken(t, zeros, 1, flat(65536), row("\x00", slices.Repeat(row(again(258, 1)), 254), again(3, 1)))
	half := fresh(10, 32768)
	taken(t, half+half, 32768, flat(1), row(half, slices.Repeat(row(again(258, 32768)), 127), half[32766:]))
	taken(t, half+half, 32767, flat(1), row(half, half))
	longer := fresh(11, 32769)
	taken(t, (longer + longer)[:65536], 32768, flat(1), row(longer, longer[:32767]))
	text := letters(12, 65536, 3)
	p := fixed()
	if least, most := price(t, cheapest(t, text, 32768, p), p), price(t, cheapest(t, text, 300, p), p); least >= most {
		t.Errorf("of three letters: %d with the greatest window, %d with a small one", least, most)
	}
}

// every is what the cheapest of all rows of tokens costs that say data from a place on.
func every(data string, at, window int, p tariff) int {
	if at == len(data) {
		return 0
	}
	best := p.lit[data[at]] + every(data, at+1, window, p)
	for d := 1; d <= min(window, at); d++ {
		for m := 1; at+m <= len(data) && data[at+m-1-d] == data[at+m-1]; m++ {
			if m >= 3 {
				best = min(best, tokenPrice(again(m, d), p)+every(data, at+m, window, p))
			}
		}
	}
	return best
}

func TestAllRows(t *testing.T) { // P21.4: of short texts
	r := rand.New(rand.NewSource(214))
	for range 5000 {
		text, window, p := letters(r.Int63(), 1+r.Intn(15), 1+r.Intn(3)), 1+r.Intn(14), drawnPrices(r)
		costs(t, cheapest(t, text, window, p), p, every(text, 0, window, p))
	}
}

func TestNoRowIsCheaper(t *testing.T) { // P21.4: a greater window costs no more, and no effort's tokens less
	r := rand.New(rand.NewSource(215))
	less, wider := 0, 0
	for range 300 {
		text, window, p := drawnText(r, 3000), drawnWindow(r), drawnPrices(r)
		if r.Intn(2) == 0 {
			p = fixed()
		}
		least := price(t, cheapest(t, text, window, p), p)
		more := window + r.Intn(32769-window)
		if sum := price(t, cheapest(t, text, more, p), p); sum > least {
			t.Errorf("%q costs %d with the window %d, %d with %d", some([]byte(text)), least, window, sum, more)
		} else if sum < least {
			wider++
		}
		for _, chain := range []int{0, 1, 20, 4096} {
			for _, lazy := range []bool{false, true} {
				tokens, _ := match.Tokens([]byte(text), api.Effort{Window: window, Chain: chain, Lazy: lazy})
				if sum := price(t, tokens, p); sum < least {
					t.Errorf("%q, window %d: Cheapest costs %d, the tokens of the chain %d %d", some([]byte(text)), window, least, chain, sum)
				} else if sum > least {
					less++
				}
			}
		}
	}
	if less < 1000 || wider < 30 {
		t.Errorf("Cheapest costs less only %d times, with a greater window %d times", less, wider)
	}
}
