package squeeze_test

import (
	"math/rand"
	"slices"
	"strings"
	"testing"

	"valise/api"
	"valise/bits"
	"valise/block"
	"valise/deflate"
	"valise/inflate"
	"valise/match"
	"valise/squeeze"
)

// textModel is the chapter's words of the text of tokens. It tells look of each block's tokens and of the bit at which it begins.
func textModel(t *testing.T, tokens []api.Token, text string, look func(tokens []api.Token, at int)) string {
	t.Helper()
	counts, e := deflate.Split(tokens)
	if e != api.OK {
		t.Fatalf("Split = %d", e)
	}
	w := bits.NewWriter()
	for i, n := range counts {
		raw := text
		if i < len(counts)-1 {
			raw = text[:len(text)-bytesOf(tokens[n:])]
		}
		look(tokens[:n], w.Len())
		sizes, e := block.Measure(tokens[:n], w.Len())
		f := block.Write(w, tokens[:n], []byte(raw), block.Choose(sizes), i == len(counts)-1)
		if e != api.OK || f != api.OK {
			t.Fatalf("the block %d: Measure %d, Write %d", i, e, f)
		}
		tokens, text = tokens[n:], text[len(raw):]
	}
	return string(w.Bytes())
}

// away looks at nothing.
func away([]api.Token, int) {}

// bytesOf is how many bytes tokens say.
func bytesOf(tokens []api.Token) int {
	n := 0
	for _, token := range tokens {
		if n++; token.Len > 0 {
			n += token.Len - 1
		}
	}
	return n
}

// roundTexts is what Squeeze chooses from: Deflate's text and those of each round's tokens, which next tells by the prices of the tokens ahead.
func roundTexts(t *testing.T, text string, rounds int, next func(p tariff) []api.Token) []string {
	t.Helper()
	nine, e := deflate.Deflate([]byte(text), 9)
	if e != api.OK {
		t.Fatalf("Deflate = %d", e)
	}
	tokens := tokensOf(text)
	stored, _ := deflate.Stored([]byte(text))
	if first := textModel(t, tokens, text, away); first != string(nine) && len(first) < len(stored) {
		t.Fatalf("of %q: the text of its tokens is not Deflate's", some([]byte(text)))
	}
	list := []string{string(nine)}
	for range rounds {
		tokens = next(pricesModel(t, tokens))
		list = append(list, textModel(t, tokens, text, away))
	}
	return list
}

// shortest is the place of the shortest text, of several such the first.
func shortest(list []string) int {
	best := 0
	for i, text := range list {
		if len(text) < len(list[best]) {
			best = i
		}
	}
	return best
}

// seen counts what drawn texts have to show.
type seen struct {
	later  int // the shortest is of a later round than the first
	worse  int // the last round's is longer than the shortest
	equal  int // another one than the shortest has as many bytes, and others
	stored int // nothing is shorter than stored
	none   int // no round is shorter than Deflate's
}

// squeezes asks for what each number of rounds answers.
func (s *seen) squeezes(t *testing.T, text string, list []string) {
	t.Helper()
	for rounds := range list {
		want := list[shortest(list[:rounds+1])]
		if got := squeezed(t, text, rounds); got != want {
			t.Errorf("Squeeze of %d bytes %q, %d rounds = %d bytes %x, want %d bytes %x", len(text), some([]byte(text)), rounds, len(got), some([]byte(got)), len(want), some([]byte(want)))
		}
	}
	at := shortest(list)
	s.later += min(1, at/2)
	if at == 0 {
		s.none++
	}
	if len(list[len(list)-1]) > len(list[at]) {
		s.worse++
	}
	for _, other := range list {
		if len(other) == len(list[at]) && other != list[at] {
			s.equal++
		}
	}
	if plain, _ := deflate.Stored([]byte(text)); string(plain) == list[at] {
		s.stored++
	}
}

func TestSqueezeModel(t *testing.T) { // P21.5, P21.6, P0.9
	r := rand.New(rand.NewSource(216))
	s := seen{}
	for range 200 {
		text := drawnText(r, 300)
		s.squeezes(t, text, roundTexts(t, text, r.Intn(5), func(p tariff) []api.Token { return cheapestModel(text, 32768, p) }))
	}
	for range 10 {
		text := drawnText(r, 200)
		s.squeezes(t, text, roundTexts(t, text, 15, func(p tariff) []api.Token { return cheapestModel(text, 32768, p) }))
	}
	for n := range 30 {
		text := noise(int64(n), n*n)
		s.squeezes(t, text, roundTexts(t, text, 2, func(p tariff) []api.Token { return cheapestModel(text, 32768, p) }))
	}
	if s.none < 100 || s.stored < 10 || s.equal < 20 || s.later < 10 {
		t.Errorf("too little was drawn: %+v", s)
	}
}

// changing is a text of n bytes in stretches of several sorts, so that it has many blocks.
func changing(r *rand.Rand, n int) string {
	text := ""
	for len(text) < n {
		switch r.Intn(4) {
		case 0:
			text += letters(r.Int63(), 200+r.Intn(2000), 2+r.Intn(20))
		case 1:
			text += noise(r.Int63(), 100+r.Intn(900))
		case 2:
			text += strings.Repeat(noise(r.Int63(), 1+r.Intn(9)), r.Intn(200))
		case 3:
			for range r.Intn(60) {
				from := r.Intn(len(text) + 1)
				text += text[from:min(len(text), from+r.Intn(30))] + letters(r.Int63(), r.Intn(5), 26)
			}
		}
	}
	return text[:n]
}

func TestSqueezeRounds(t *testing.T) { // P21.5, P21.6: of longer texts, in many blocks, by Cheapest itself
	r := rand.New(rand.NewSource(217))
	s := seen{}
	blocks := 0
	for range 40 {
		text := changing(r, 1+r.Intn(9000))
		list := roundTexts(t, text, 5, func(p tariff) []api.Token { return cheapest(t, text, 32768, p) })
		s.squeezes(t, text, list)
		pieces, _ := inflate.Walk([]byte(list[shortest(list)]), len(text))
		blocks += len(pieces)
	}
	if s.later < 15 || s.worse < 6 || s.equal < 20 || blocks < 120 {
		t.Errorf("too little was drawn: %+v, %d blocks", s, blocks)
	}
}

// nearlyStored is a text with blocks that take about as many bits stored, 1059 and what fills up, as fixed: 128 bytes, 1034 bits and one for each byte from 144 on. Behind them stand letters for which a round finds better tokens.
func nearlyStored(r *rand.Rand) string {
	var data []byte
	for i := range 16 {
		high := 24 + r.Intn(10)
		for _, at := range r.Perm(128) {
			b := i%2*64 + r.Intn(64)
			if at < high {
				b = 144 + r.Intn(112)
			}
			data = append(data, byte(b))
		}
	}
	return string(data) + letters(r.Int63(), 3000, 2)
}

func TestAtTheBit(t *testing.T) { // P21.5: the bit at which a block begins may decide of what kind it is
	r := rand.New(rand.NewSource(220))
	decided := 0
	look := func(tokens []api.Token, at int) {
		here, _ := block.Measure(tokens, at)
		first, _ := block.Measure(tokens, 0)
		if block.Choose(here) != block.Choose(first) {
			decided++
		}
	}
	for range 10 {
		text := nearlyStored(r)
		lit, dist, _ := squeeze.Prices(tokensOf(text))
		want := textModel(t, cheapest(t, text, 32768, tariff{lit, dist}), text, look)
		if got := squeezed(t, text, 1); got != want {
			t.Errorf("Squeeze of %d bytes = %d bytes, want %d", len(text), len(got), len(want))
		}
	}
	if decided < 10 {
		t.Errorf("the bit decides only %d times", decided)
	}
}

// tokensOf is the tokens of a text at the level 9.
func tokensOf(text string) []api.Token {
	effort, _ := deflate.Effort(9)
	tokens, _ := match.Tokens([]byte(text), effort)
	return tokens
}

func TestItComesBack(t *testing.T) { // P21.7
	r := rand.New(rand.NewSource(218))
	list := append(texts(), noise(8, 65536), strings.Repeat("x", 65536), changing(r, 65535), letters(9, 65536, 2))
	shorter := 0
	for i, text := range list {
		nine, _ := deflate.Deflate([]byte(text), 9)
		last := len(nine)
		for _, rounds := range [][]int{{0, 1, 2, 3, 7, 15}, {0, 1, 4}}[i/len(texts())] {
			packed := squeezed(t, text, rounds)
			plain, e := inflate.Exact([]byte(packed), len(text))
			if e != api.OK || string(plain) != text || len(packed) > last || rounds == 0 && packed != string(nine) {
				t.Errorf("%d bytes %q, %d rounds: %d bytes behind %d, %d", len(text), some([]byte(text)), rounds, len(packed), last, e)
			}
			last = len(packed)
		}
		if last < len(nine) {
			shorter++
		}
	}
	if shorter < 4 {
		t.Errorf("only %d texts have become shorter", shorter)
	}
}

func TestSqueezeLastByte(t *testing.T) { // P21.5: one block alone is the last, and what fills up the last byte is zero
	r := rand.New(rand.NewSource(219))
	for range 20 {
		text := changing(r, 1+r.Intn(5000))
		packed := squeezed(t, text, 2)
		pieces, e := inflate.Walk([]byte(packed), len(text))
		to := pieces[len(pieces)-1].To
		if e != api.OK || len(packed) != (to+7)/8 || to%8 > 0 && packed[len(packed)-1]>>(to%8) != 0 {
			t.Errorf("%d bytes for %d bits, %d", len(packed), to, e)
		}
		if slices.ContainsFunc(pieces[:len(pieces)-1], func(p api.Piece) bool { return p.Final }) {
			t.Errorf("%v: several are the last", pieces)
		}
	}
}
