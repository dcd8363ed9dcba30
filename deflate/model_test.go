package deflate_test

import (
	"math/big"
	"math/rand"
	"slices"
	"testing"

	"valise/api"
	"valise/bits"
	"valise/block"
	"valise/deflate"
	"valise/match"
)

// classModel tells the class of a token, in the order in which the chapter names them.
func classModel(token api.Token) int {
	literal := token.Len == 0
	is := [8]bool{
		literal && token.Lit < 64,
		literal && token.Lit >= 64 && token.Lit < 128,
		literal && token.Lit >= 128 && token.Lit < 192,
		literal && token.Lit >= 192,
		!literal && token.Len <= 8 && token.Dist <= 256,
		!literal && token.Len <= 8 && token.Dist > 256,
		!literal && token.Len > 8 && token.Dist <= 256,
		!literal && token.Len > 8 && token.Dist > 256,
	}
	return slices.Index(is[:], true)
}

// shares tells which part of tokens is of each class.
func shares(tokens []api.Token) [8]*big.Rat {
	var n [8]int64
	for _, token := range tokens {
		n[classModel(token)]++
	}
	var of [8]*big.Rat
	for k := range of {
		of[k] = big.NewRat(n[k], int64(len(tokens)))
	}
	return of
}

// changesModel tells whether two tables of shares differ by a half or more, added up.
func changesModel(ahead, unit []api.Token) bool {
	sum := new(big.Rat)
	a, b := shares(ahead), shares(unit)
	for k := range a {
		d := new(big.Rat).Sub(a[k], b[k])
		sum.Add(sum, d.Abs(d))
	}
	return sum.Cmp(big.NewRat(1, 2)) >= 0
}

func saidModel(tokens []api.Token) int {
	n := 0
	for _, token := range tokens {
		n += max(1, token.Len)
	}
	return n
}

// splitModel is the chapter's words of Split: the blocks themselves.
func splitModel(tokens []api.Token) [][]api.Token {
	var units [][]api.Token
	for rest := tokens; len(rest) > 0; rest = rest[min(128, len(rest)):] {
		units = append(units, rest[:min(128, len(rest))])
	}
	if len(units) == 0 {
		return [][]api.Token{nil}
	}
	var blocks [][]api.Token
	ahead := slices.Clone(units[0])
	for _, unit := range units[1:] {
		if len(ahead) == 8192 || saidModel(ahead)+saidModel(unit) > 65535 || len(unit) == 128 && changesModel(ahead, unit) {
			blocks = append(blocks, ahead)
			ahead = nil
		}
		ahead = append(ahead, unit...)
	}
	return append(blocks, ahead)
}

// deflateModel is the chapter's words of Deflate. It tells look of each block's tokens and of the bit at which it begins.
func deflateModel(t *testing.T, text string, level int, look func(tokens []api.Token, at int)) string {
	t.Helper()
	fixed := storedModel(text)
	if level == 0 {
		return fixed
	}
	effort, _ := deflate.Effort(level)
	tokens, e := match.Tokens([]byte(text), effort)
	if e != api.OK {
		t.Fatalf("Tokens = %d", e)
	}
	w, rest, all := bits.NewWriter(), text, splitModel(tokens)
	for i, tokens := range all {
		look(tokens, w.Len())
		sizes, e := block.Measure(tokens, w.Len())
		n := saidModel(tokens)
		f := block.Write(w, tokens, []byte(rest[:n]), block.Choose(sizes), i == len(all)-1)
		if e != api.OK || f != api.OK {
			t.Fatalf("the block %d: Measure %d, Write %d", i, e, f)
		}
		rest = rest[n:]
	}
	if got := w.Bytes(); len(fixed) > len(got) {
		return string(got)
	}
	return fixed
}

// away looks at nothing.
func away([]api.Token, int) {}

// drawnTokens is tokens in stretches, each with a few sorts of them.
func drawnTokens(r *rand.Rand) []api.Token {
	var tokens []api.Token
	for range 1 + r.Intn(12) {
		var sorts []api.Token
		for range 1 + r.Intn(5) {
			token := api.Token{Lit: byte(r.Intn(256))}
			if r.Intn(2) == 0 {
				token = api.Token{Len: 3 + r.Intn([]int{4, 12, 256}[r.Intn(3)]), Dist: 1 + r.Intn([]int{4, 300, 32768}[r.Intn(3)])}
			}
			sorts = append(sorts, token)
		}
		for range r.Intn([]int{40, 129, 600, 3000}[r.Intn(4)]) {
			tokens = append(tokens, sorts[r.Intn(1+r.Intn(len(sorts)))])
		}
	}
	return tokens
}

func TestSplitModel(t *testing.T) { // P11.4
	r := rand.New(rand.NewSource(110))
	closed := 0
	for range 300 {
		tokens := drawnTokens(r)
		var want []int
		for _, ahead := range splitModel(tokens) {
			want = append(want, len(ahead))
		}
		splits(t, tokens, want...)
		closed += len(want) - 1
	}
	if closed < 500 {
		t.Errorf("only %d blocks have been closed", closed)
	}
}

// drawnText is a text in stretches: each of few or many letters, of what was ahead, or without any order.
func drawnText(r *rand.Rand, n int) string {
	var data []byte
	for len(data) < n {
		from, letters, back := r.Intn(256), 1+r.Intn([]int{2, 20, 256}[r.Intn(3)]), r.Intn(3)
		for range 1 + r.Intn([]int{30, 200, 2000}[r.Intn(3)]) {
			if back == 0 && len(data) > 300 && r.Intn(20) == 0 {
				at := r.Intn(len(data) - 100)
				data = append(data, data[at:at+r.Intn(100)]...)
			}
			data = append(data, byte(from+r.Intn(letters)))
		}
	}
	return string(data[:n])
}

func TestDeflateModel(t *testing.T) { // P11.5, P0.9
	r := rand.New(rand.NewSource(111))
	for i := range 90 {
		text := drawnText(r, r.Intn([]int{20, 2000, 12000}[i%3]))
		for level := range 10 {
			deflates(t, text, level, deflateModel(t, text, level, away))
		}
	}
	for _, text := range texts() {
		for level := range 10 {
			deflates(t, text, level, deflateModel(t, text, level, away))
		}
	}
}

// nearlyStored is a text whose blocks take about as many bits stored, 1059 and what fills up, as fixed: 128 bytes, 1034 bits and one for each byte from 144 on. It begins with a stretch that is worth a code, so that the whole is not stored.
func nearlyStored(r *rand.Rand) string {
	data := slices.Repeat([]byte("ab"), 1500)
	for i := range 60 {
		high := 24 + r.Intn(10)
		for _, at := range r.Perm(128) {
			b := i%2*64 + r.Intn(64)
			if at < high {
				b = 144 + r.Intn(112)
			}
			data = append(data, byte(b))
		}
	}
	return string(data)
}

func TestAtTheBit(t *testing.T) { // P11.5: the bit at which a block begins may decide of what kind it is
	r := rand.New(rand.NewSource(112))
	var decided [8]int // of the blocks that begin at each bit of a byte, for how many that is so
	look := func(tokens []api.Token, at int) {
		kinds := map[int]int{}
		for bit := range 8 {
			sizes, _ := block.Measure(tokens, bit)
			kinds[block.Choose(sizes)]++
		}
		if len(kinds) > 1 {
			decided[at%8]++
		}
	}
	for range 20 {
		text := nearlyStored(r)
		want := deflateModel(t, text, 1, look)
		deflates(t, text, 1, want)
		if want == storedModel(text) {
			t.Errorf("%q is stored as a whole", some([]byte(text)))
		}
	}
	if slices.Min(decided[:]) < 3 {
		t.Errorf("the bit seldom decides: %v", decided)
	}
}
