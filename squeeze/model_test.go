package squeeze_test

import (
	"math/rand"
	"slices"
	"strings"
	"testing"

	"valise/api"
	"valise/block"
	"valise/match"
)

// copyPrices is what copies of each length cost without their distance, and those from each distance, up to the greatest that counts, without their length.
func copyPrices(p tariff, greatest int) (lengths, dists []int) {
	nothing := slices.Clone(p.lit)
	lengths, dists = make([]int, 259), make([]int, greatest+1)
	for m := 3; m <= 258; m++ {
		lengths[m] = tokenPrice(again(m, 1), tariff{p.lit, make([]int, 30)})
	}
	clear(nothing)
	for d := 1; d <= greatest; d++ {
		dists[d] = tokenPrice(again(3, d), tariff{nothing, p.dist})
	}
	return lengths, dists
}

// cheapestModel is the chapter's words of Cheapest: all steps at each place, one by one.
func cheapestModel(data string, window int, p tariff) []api.Token {
	lengths, dists := copyPrices(p, min(window, len(data)))
	rest, chosen := make([]int, len(data)+1), make([]api.Token, len(data))
	for i := len(data) - 1; i >= 0; i-- {
		least, best := p.lit[data[i]]+rest[i+1], api.Token{Lit: data[i]}
		for d := 1; d <= min(window, i); d++ {
			for m := 1; m <= min(258, len(data)-i) && data[i-d+m-1] == data[i+m-1]; m++ {
				if m < 3 {
					continue
				}
				sum := lengths[m] + dists[d] + rest[i+m]
				if sum < least || sum == least && (m > max(1, best.Len) || m == best.Len && d < best.Dist) {
					least, best = sum, again(m, d)
				}
			}
		}
		rest[i], chosen[i] = least, best
	}
	var tokens []api.Token
	for i := 0; i < len(data); i += max(1, chosen[i].Len) {
		tokens = append(tokens, chosen[i])
	}
	return tokens
}

// drawnText is a text of one of several kinds, in which much stands twice.
func drawnText(r *rand.Rand, most int) string {
	n := r.Intn(most)
	switch r.Intn(5) {
	case 0:
		return letters(r.Int63(), n, 1+r.Intn(4))
	case 1:
		part := noise(r.Int63(), 1+r.Intn(20))
		return strings.Repeat(part, n/len(part)+1)[:n]
	case 2:
		text := noise(r.Int63(), 1+n/4) // parts of it over and over, with a foreign byte here and there
		for len(text) < n {
			from := r.Intn(len(text))
			text += text[from:min(len(text), from+r.Intn(60))] + noise(r.Int63(), r.Intn(3))
		}
		return text
	case 3:
		text := ""
		for len(text) < n {
			text += strings.Repeat(string([]byte{byte(r.Intn(2))}), 1+r.Intn(400)) + letters(r.Int63(), r.Intn(3), 2)
		}
		return text
	}
	return letters(r.Int63(), n, 12)
}

// drawnWindow is a window, narrow or wide.
func drawnWindow(r *rand.Rand) int {
	return []int{1 + r.Intn(10), 1 + r.Intn(300), 1 + r.Intn(32768), 32768}[r.Intn(4)]
}

func TestDrawnTexts(t *testing.T) { // P21.3
	r := rand.New(rand.NewSource(212))
	shorter, literals, further := 0, 0, 0
	for range 1200 {
		text, window, p := drawnText(r, 250), drawnWindow(r), drawnPrices(r)
		want := cheapestModel(text, window, p)
		taken(t, text, window, p, want)
		costs(t, want, p, priceModel(want, p))
		at := 0
		for _, token := range want {
			length, dist, _ := match.Best([]byte(text), at, api.Effort{Window: window, Chain: api.MaxChain})
			switch {
			case length > 0 && token.Len == 0:
				literals++
			case token.Len < length:
				shorter++
			case token.Len > 0 && token.Dist > dist:
				further++
			}
			at += max(1, token.Len)
		}
	}
	if shorter < 800 || literals < 10000 || further < 250 {
		t.Errorf("too little was drawn: %d copies shorter than the longest, %d literals in the place of one, %d longest from further back", shorter, literals, further)
	}
}

func TestLongTexts(t *testing.T) { // P21.3: with distances of all symbols
	r := rand.New(rand.NewSource(213))
	text := []byte(letters(r.Int63(), 40000, 60))
	for range 300 {
		from, n := r.Intn(len(text)-300), 3+r.Intn(290)
		copy(text[r.Intn(len(text)-n):], slices.Clone(text[from:from+n]))
	}
	p := flat(9)
	for s := range p.dist {
		p.dist[s] = 1 + r.Intn(30)
	}
	want := cheapestModel(string(text), 32768, p)
	taken(t, string(text), 32768, p, want)
	far := map[int]int{}
	for _, token := range want {
		symbol, _, _, _ := block.DistSymbol(token.Dist)
		far[symbol] += token.Len
	}
	for symbol := 16; symbol < 30; symbol++ {
		if far[symbol] == 0 {
			t.Errorf("nothing is copied from the distances of the symbol %d", symbol)
		}
	}
}
