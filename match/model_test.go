package match_test

import (
	"math/rand"
	"slices"
	"strings"
	"testing"

	"valise/api"
	"valise/match"
)

// plainBest is the best copy at a place by the chapter's words.
func plainBest(data string, at int, effort api.Effort) (length, dist int) {
	for j, counted := at-1, 0; j >= 0 && at-j <= effort.Window && counted < effort.Chain; j-- {
		if at+2 >= len(data) || data[j:j+3] != data[at:at+3] {
			continue
		}
		counted++
		m := 0
		for m < 258 && m < len(data)-at && data[j+m] == data[at+m] {
			m++
		}
		if m > length {
			length, dist = m, at-j
		}
	}
	return length, dist
}

// plainTokens is the tokens by the chapter's words.
func plainTokens(data string, effort api.Effort) []api.Token {
	var tokens []api.Token
	for i := 0; i < len(data); {
		length, dist := plainBest(data, i, effort)
		later := 0
		if i+1 < len(data) {
			later, _ = plainBest(data, i+1, effort)
		}
		if length == 0 || effort.Lazy && later > length {
			tokens = append(tokens, api.Token{Lit: data[i]})
			i++
			continue
		}
		tokens = append(tokens, again(length, dist))
		i += length
	}
	return tokens
}

// plainExpand is the text of tokens by the chapter's words.
func plainExpand(tokens []api.Token, limit int) (string, api.Errno) {
	if limit < 0 || limit > 16777216 {
		return "", api.ErrArg
	}
	text := ""
	for _, x := range tokens {
		literal := x.Len == 0 && x.Dist == 0
		copied := x.Len >= 3 && x.Len <= 258 && x.Dist >= 1 && x.Dist <= 32768 && x.Lit == 0
		if !literal && !copied {
			return "", api.ErrMatchToken
		}
		if copied && x.Dist > len(text) {
			return "", api.ErrMatchFar
		}
		if literal {
			text += string([]byte{x.Lit})
		}
		for range x.Len {
			text += text[len(text)-x.Dist:][:1]
		}
		if len(text) > limit {
			return "", api.ErrMatchLimit
		}
	}
	return text, api.OK
}

// drawnText is a text of one of several kinds, in which much stands twice.
func drawnText(r *rand.Rand, most int) string {
	n := r.Intn(most)
	switch r.Intn(5) {
	case 0:
		return letters(r.Int63(), n, 1+r.Intn(4))
	case 1:
		part := anyBytes(r.Int63(), 1+r.Intn(20))
		return strings.Repeat(part, n/len(part)+1)[:n]
	case 2:
		text := anyBytes(r.Int63(), 1+n/4) // parts of it over and over, with a foreign byte here and there
		for len(text) < n {
			from := r.Intn(len(text))
			text += text[from:min(len(text), from+r.Intn(300))] + anyBytes(r.Int63(), r.Intn(3))
		}
		return text
	case 3:
		text := ""
		for len(text) < n {
			text += strings.Repeat(string([]byte{byte(r.Intn(2))}), 1+r.Intn(400)) + letters(r.Int63(), r.Intn(3), 2)
		}
		return text
	}
	return letters(r.Int63(), n, 26)
}

func drawnEffort(r *rand.Rand) api.Effort {
	return api.Effort{
		Window: []int{1 + r.Intn(10), 1 + r.Intn(300), 32768}[r.Intn(3)],
		Chain:  []int{r.Intn(4), r.Intn(40), 4096}[r.Intn(3)],
		Lazy:   r.Intn(2) == 0,
	}
}

func TestDrawnTexts(t *testing.T) { // P9.1 to P9.3, P9.5
	r := rand.New(rand.NewSource(91))
	copies, put := 0, 0
	for range 3000 {
		data, effort := drawnText(r, 600), drawnEffort(r)
		tokens := told(t, data, effort)
		if want := plainTokens(data, effort); !slices.Equal(tokens, want) {
			t.Fatalf("Tokens(%q, %v) = %v, want %v", data, effort, tokens, want)
		}
		for range 5 {
			if at := r.Intn(len(data) + 1); at < len(data) {
				length, dist := plainBest(data, at, effort)
				best(t, data, at, effort, length, dist)
			}
		}
		copies += len(data) - len(tokens)
		effort.Lazy = !effort.Lazy
		if other := told(t, data, effort); !slices.Equal(other, tokens) {
			put++
		}
	}
	if copies < 100000 || put < 300 {
		t.Errorf("too little was drawn: %d bytes in copies, %d texts with a byte that is put off", copies, put)
	}
}

func TestLongTexts(t *testing.T) { // P9.2, P9.5: longer than the window
	r := rand.New(rand.NewSource(92))
	for range 12 {
		data, effort := drawnText(r, 20000), drawnEffort(r)
		effort.Window = 1 + r.Intn(400)
		if tokens, want := told(t, data, effort), plainTokens(data, effort); !slices.Equal(tokens, want) {
			t.Errorf("%d bytes with %v: %d tokens, want %d", len(data), effort, len(tokens), len(want))
		}
	}
	for kinds := 2; kinds <= 5; kinds++ {
		data, effort := letters(int64(kinds), 80000, kinds), api.Effort{Window: api.Window, Chain: 1 + r.Intn(6), Lazy: kinds%2 == 0}
		if tokens, want := told(t, data, effort), plainTokens(data, effort); !slices.Equal(tokens, want) {
			t.Errorf("%d bytes with %v: %d tokens, want %d", len(data), effort, len(tokens), len(want))
		}
	}
}

func TestRepeatedTexts(t *testing.T) { // P9.2: as long as the window, or one byte less or more
	for size := 32767; size <= 32769; size++ {
		tokens := told(t, strings.Repeat(anyBytes(int64(size), size), 3), lazy())
		copied := 0
		for _, token := range tokens {
			if token.Dist == size {
				copied += token.Len
			}
		}
		want := []int{65532, 65536, 0}[size-32767] // the last two bytes of 65534 are too few
		if copied != want {
			t.Errorf("of three times %d bytes %d come from so far back, want %d", size, copied, want)
		}
	}
}

func TestNoBetterCopy(t *testing.T) { // P9.6, by Best alone
	r := rand.New(rand.NewSource(93))
	for range 300 {
		data, effort := drawnText(r, 400), drawnEffort(r)
		at := 0
		for _, token := range told(t, data, effort) {
			length, dist, _ := match.Best([]byte(data), at, effort)
			later := 0
			if at+1 < len(data) {
				later, _, _ = match.Best([]byte(data), at+1, effort)
			}
			if waited := effort.Lazy && later > length; token.Len > 0 && (token != again(length, dist) || waited) || token.Len == 0 && length > 0 && !waited {
				t.Errorf("%q with %v: at %d stands %v; there is %d, %d, and then %d", data, effort, at, token, length, dist, later)
			}
			at += max(1, token.Len)
		}
	}
}

func TestMoreEffort(t *testing.T) { // P9.7
	r := rand.New(rand.NewSource(94))
	grown := 0
	for range 4000 {
		data, effort := drawnText(r, 400)+"end", drawnEffort(r)
		at := r.Intn(len(data))
		least, _, _ := match.Best([]byte(data), at, effort)
		for _, more := range []api.Effort{
			{Window: effort.Window + r.Intn(32769-effort.Window), Chain: effort.Chain},
			{Window: effort.Window, Chain: effort.Chain + r.Intn(4097-effort.Chain)},
			{Window: 32768, Chain: 4096, Lazy: true},
		} {
			length, _, e := match.Best([]byte(data), at, more)
			if length < least || e != api.OK {
				t.Errorf("%q at %d: %d with %v, %d with %v", data, at, least, effort, length, more)
			}
			if length > least {
				grown++
			}
		}
	}
	if grown < 500 {
		t.Errorf("more effort gave more only %d times", grown)
	}
}

// drawnTokens is tokens most of which can be taken.
func drawnTokens(r *rand.Rand) ([]api.Token, int) {
	tokens, size := row("abc"), 3
	for range r.Intn(20) {
		token := api.Token{Lit: byte(r.Intn(256))}
		switch r.Intn(30) {
		case 0:
			token = unsound()[r.Intn(len(unsound()))]
		case 1:
			token = again(3+r.Intn(256), size+1+r.Intn(5))
		case 2, 3, 4, 5, 6, 7, 8, 9, 10:
			token = again(3+r.Intn(256), 1+r.Intn(size))
		}
		tokens = append(tokens, token)
		size += min(258, max(1, token.Len))
	}
	return tokens[r.Intn(2)*r.Intn(2)*r.Intn(4):], size
}

// met asks that each of the answers has been drawn.
func met(t *testing.T, seen map[api.Errno]int, all ...api.Errno) {
	t.Helper()
	for _, e := range all {
		if seen[e] < 10 {
			t.Errorf("%d was drawn only %d times", e, seen[e])
		}
	}
}

func TestDrawnTokens(t *testing.T) { // P9.4
	r := rand.New(rand.NewSource(95))
	seen := map[api.Errno]int{}
	for range 10000 {
		tokens, size := drawnTokens(r)
		limit := []int{size, size, api.MaxCapacity, size - r.Intn(5), r.Intn(size), api.MaxCapacity + r.Intn(2), -r.Intn(2)}[r.Intn(7)]
		text, e := match.Expand(tokens, limit)
		want, wantE := plainExpand(tokens, limit)
		if string(text) != want || e != wantE || e != api.OK && text != nil {
			t.Errorf("Expand(%v, %d) = %q, %d, want %q, %d", tokens, limit, some(text), e, some([]byte(want)), wantE)
		}
		seen[e]++
	}
	met(t, seen, api.OK, api.ErrArg, api.ErrMatchToken, api.ErrMatchFar, api.ErrMatchLimit)
}
