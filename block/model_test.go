package block_test

import (
	"math/rand"
	"slices"
	"strconv"
	"strings"
	"testing"

	"valise/api"
	"valise/bits"
	"valise/block"
	"valise/build"
	"valise/header"
)

// reversed is a text from its end on.
func reversed(text string) string {
	list := []byte(text)
	slices.Reverse(list)
	return string(list)
}

// plainSymbol is the row of a chapter's table that a length or distance stands in.
func plainSymbol(table []stretch, v int) stretch {
	for _, s := range table {
		if v >= s.from && v <= s.to {
			return s
		}
	}
	return stretch{}
}

// plainWords is the words of chapter 5 as texts of 0 and 1: each is the one ahead and 1, moved left.
func plainWords(lens []int) []string {
	words := make([]string, len(lens))
	last, length := -1, 0
	for l := 1; l <= 15; l++ {
		for symbol, n := range lens {
			if n == l {
				last = (last + 1) << (l - length)
				length = l
				word := strconv.FormatInt(int64(last), 2)
				words[symbol] = strings.Repeat("0", l-len(word)) + word
			}
		}
	}
	return words
}

// plainFixed is the code lengths of the fixed blocks by the words of chapter 5.
func plainFixed() (lit, dist []int) {
	lit = slices.Concat(slices.Repeat([]int{8}, 144), slices.Repeat([]int{9}, 112), slices.Repeat([]int{7}, 24), slices.Repeat([]int{8}, 8))
	return lit, slices.Repeat([]int{5}, 32)
}

// plainTrees is Trees by the chapter's words.
func plainTrees(tokens []api.Token) (lit, dist []int) {
	lit, dist = numbers(286, 256, 1), numbers(30)
	for _, token := range tokens {
		if token.Len == 0 {
			lit[token.Lit]++
			continue
		}
		lit[plainSymbol(lengthTable(), token.Len).symbol]++
		dist[plainSymbol(distTable(), token.Dist).symbol]++
	}
	lit, _ = build.Limited(lit, 15)
	dist, _ = build.Limited(dist, 15)
	return lit, dist
}

// plainBody is the tokens and the end in the two codes.
func plainBody(tokens []api.Token, lit, dist []int) string {
	var text strings.Builder
	litWords, distWords := plainWords(lit), plainWords(dist)
	lengths, dists := lengthTable(), distTable()
	for _, token := range tokens {
		if token.Len == 0 {
			text.WriteString(litWords[token.Lit])
			continue
		}
		s := plainSymbol(lengths, token.Len)
		text.WriteString(litWords[s.symbol] + figure(token.Len-s.from, s.further))
		s = plainSymbol(dists, token.Dist)
		text.WriteString(distWords[s.symbol] + figure(token.Dist-s.from, s.further))
	}
	return text.String() + litWords[256]
}

// plainBlock is a block's bits by the chapter's words, where at bits stand ahead of it.
func plainBlock(at int, tokens []api.Token, raw string, kind int, final bool) string {
	text := "0"
	if final {
		text = "1"
	}
	text += []string{"00", "10", "01"}[kind]
	switch kind {
	case 0:
		for (at+len(text))%8 != 0 {
			text += "0"
		}
		text += figure(len(raw), 16) + figure(65535-len(raw), 16)
		var whole strings.Builder
		for i := range len(raw) {
			whole.WriteString(figure(int(raw[i]), 8))
		}
		return text + whole.String()
	case 1:
		lit, dist := plainFixed()
		return text + plainBody(tokens, lit, dist)
	}
	lit, dist := plainTrees(tokens)
	w := bits.NewWriter()
	header.Write(w, lit, dist)
	return text + held(w) + plainBody(tokens, lit, dist)
}

// drawnNumber draws a number from one on, small ones more often than great ones.
func drawnNumber(r *rand.Rand, from, most int) int { return from + r.Intn(1+r.Intn(most-from+1)) }

// drawn draws tokens that may be, of which a block may be made.
func drawn(r *rand.Rand) []api.Token {
	var tokens []api.Token
	kinds, copies, even := 1+r.Intn(256), r.Intn(4), r.Intn(8) == 0
	longest, furthest := drawnNumber(r, 3, 258), drawnNumber(r, 1, 32768)
	for want := drawnNumber(r, 0, 3000); len(tokens) < want; {
		token := api.Token{Lit: byte(r.Intn(1 + r.Intn(kinds)))}
		if r.Intn(4) < copies {
			token = again(drawnNumber(r, 3, longest), drawnNumber(r, 1, furthest))
		}
		if even { // of such bytes stored blocks are the least
			token = api.Token{Lit: byte(r.Intn(256))}
		}
		tokens = append(tokens, token)
	}
	for size(tokens) > 65535 {
		tokens = tokens[:len(tokens)/2]
	}
	return tokens
}

// drawnBytes draws n bytes.
func drawnBytes(r *rand.Rand, n int) string {
	data := make([]byte, n)
	r.Read(data)
	return string(data)
}

func TestDrawnBlocks(t *testing.T) { // P10.3 to P10.5, P10.7, P10.8, P10.9
	r := rand.New(rand.NewSource(101))
	chosen := make([]int, 3)
	for range 400 {
		tokens := drawn(r)
		wantLit, wantDist := plainTrees(tokens)
		if lit, dist := treed(t, tokens); !slices.Equal(lit, wantLit) || !slices.Equal(dist, wantDist) {
			t.Errorf("Trees(%v) = %v, %v, want %v, %v", some(tokens), lit, dist, wantLit, wantDist)
		}
		n, ahead, final := size(tokens), strings.Repeat("011", 9)[:r.Intn(27)], r.Intn(2) == 0
		s := measured(t, tokens, len(ahead))
		raw := drawnBytes(r, n)
		for kind, size := range []int{s.Stored, s.Fixed, s.Dynamic} {
			text, want := writtenOf(t, ahead, tokens, raw, kind, final), plainBlock(len(ahead), tokens, raw, kind, final)
			if text != want || len(text) != size {
				t.Errorf("Write(%v, %d) behind %s: %d bits, want %d, measured are %d", some(tokens), kind, ahead, len(text), len(want), size)
			}
		}
		kind := block.Choose(s)
		chosen[kind]++
		if least := []int{s.Stored, s.Fixed, s.Dynamic}[kind]; least != min(s.Stored, s.Fixed, s.Dynamic) || least > 42+8*n || len(ahead)%8 == 0 && least > 40+8*n {
			t.Errorf("Choose(%v) = %d for %d bytes at %d", s, kind, n, len(ahead))
		}
	}
	for kind, n := range chosen {
		if n < 10 {
			t.Errorf("the kind %d was chosen only %d times", kind, n)
		}
	}
}

// plainError is the error of Write by the chapter's words, of a writer that is there.
func plainError(tokens []api.Token, raw []byte, kind int) api.Errno {
	n, sound := 0, true
	for _, x := range tokens {
		literal := x.Len == 0 && x.Dist == 0
		sound = sound && (literal || x.Len >= 3 && x.Len <= 258 && x.Dist >= 1 && x.Dist <= 32768 && x.Lit == 0)
		n += max(1, x.Len)
	}
	switch {
	case len(raw) > 16777216:
		return api.ErrArg
	case kind < 0 || kind > 2:
		return api.ErrBlockKind
	case !sound:
		return api.ErrBlockToken
	case n > 65535:
		return api.ErrBlockLong
	case len(raw) != n:
		return api.ErrBlockRaw
	}
	return api.OK
}

func TestDrawnErrors(t *testing.T) { // P10.3, P10.5, P10.7: what may be and what may not, one with the other
	r := rand.New(rand.NewSource(102))
	seen := map[api.Errno]int{}
	for range 3000 {
		var tokens []api.Token
		if r.Intn(10) == 0 {
			tokens = saying(65500)
		}
		for range r.Intn(60) {
			token := api.Token{Lit: byte(r.Intn(3))}
			if r.Intn(3) == 0 {
				token = again(3+r.Intn(5), 1+r.Intn(5))
			}
			if r.Intn(100) == 0 {
				token = api.Token{Len: []int{0, 2, 3, 258, 259}[r.Intn(5)], Dist: []int{0, 1, 32768, 32769}[r.Intn(4)], Lit: byte(r.Intn(2))}
			}
			tokens = append(tokens, token)
		}
		raw, kind := make([]byte, max(0, size(tokens)+r.Intn(2)*(r.Intn(3)-1))), r.Intn(5)-1
		want := plainError(tokens, raw, kind)
		seen[want]++
		if e := block.Write(bits.NewWriter(), tokens, raw, kind, true); e != want {
			t.Errorf("Write(%v, %d bytes, %d) = %d, want %d", some(tokens), len(raw), kind, e, want)
		}
		if _, e := block.Measure(tokens, r.Intn(9)); e != plainError(tokens, make([]byte, size(tokens)), 0) {
			t.Errorf("Measure(%v) = %d", some(tokens), e)
		}
		if _, _, e := block.Count(tokens); (e == api.ErrBlockToken) != (plainError(tokens, nil, 0) == api.ErrBlockToken) {
			t.Errorf("Count(%v) = %d", some(tokens), e)
		}
	}
	for _, e := range []api.Errno{api.OK, api.ErrBlockKind, api.ErrBlockToken, api.ErrBlockLong, api.ErrBlockRaw} {
		if seen[e] < 10 {
			t.Errorf("%d was drawn only %d times", e, seen[e])
		}
	}
}
