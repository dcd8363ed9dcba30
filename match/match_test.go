package match_test

import (
	"bytes"
	"math/rand"
	"slices"
	"strings"
	"sync"
	"testing"

	"valise/api"
	"valise/match"
)

// full is the greatest effort; lazy is the same, and puts bytes off.
func full() api.Effort { return api.Effort{Window: api.Window, Chain: api.MaxChain} }
func lazy() api.Effort { return api.Effort{Window: api.Window, Chain: api.MaxChain, Lazy: true} }

// again is a copy of so many bytes from so far back.
func again(length, dist int) api.Token { return api.Token{Len: length, Dist: dist} }

// row is tokens: a text stands for the literals of its bytes.
func row(parts ...any) []api.Token {
	var tokens []api.Token
	for _, part := range parts {
		switch v := part.(type) {
		case string:
			for i := range len(v) {
				tokens = append(tokens, api.Token{Lit: v[i]})
			}
		case api.Token:
			tokens = append(tokens, v)
		case []api.Token:
			tokens = append(tokens, v...)
		}
	}
	return tokens
}

// some is the beginning of a list, to be shown.
func some[T any](list []T) []T { return list[:min(len(list), 40)] }

func anyBytes(seed int64, n int) string {
	data := make([]byte, n)
	rand.New(rand.NewSource(seed)).Read(data)
	return string(data)
}

// letters is n bytes of few kinds, so that much of it stood there before.
func letters(seed int64, n, kinds int) string {
	r := rand.New(rand.NewSource(seed))
	data := make([]byte, n)
	for i := range data {
		data[i] = byte('a' + r.Intn(kinds))
	}
	return string(data)
}

// told asks Tokens and Each of one text, holds them against each other, and asks that nothing is lost (P9.3, P9.5). It tells the tokens.
func told(t *testing.T, data string, effort api.Effort) []api.Token {
	t.Helper()
	tokens, e := match.Tokens([]byte(data), effort)
	if e != api.OK {
		t.Errorf("Tokens of %d bytes with %v: %d", len(data), effort, e)
	}
	if each := slices.Collect(match.Each([]byte(data), effort)); !slices.Equal(each, tokens) {
		t.Errorf("Each of %q with %v gives %v, Tokens %v", some([]byte(data)), effort, some(each), some(tokens))
	}
	for i, token := range tokens {
		if literal, copied := token.Len == 0 && token.Dist == 0, token.Len >= 3 && token.Len <= 258 && token.Dist >= 1 && token.Dist <= effort.Window && token.Lit == 0; !literal && !copied {
			t.Errorf("the token %d of %q with %v is %v", i, some([]byte(data)), effort, token)
		}
	}
	if text, e := match.Expand(tokens, len(data)); string(text) != data || e != api.OK || len(tokens) > len(data) {
		t.Errorf("%d tokens of %q with %v say %q, %d", len(tokens), some([]byte(data)), effort, some(text), e)
	}
	return tokens
}

// tells asks for these tokens.
func tells(t *testing.T, data string, effort api.Effort, parts ...any) {
	t.Helper()
	if got, want := told(t, data, effort), row(parts...); !slices.Equal(got, want) {
		t.Errorf("Tokens(%q, %v) = %v, want %v", some([]byte(data)), effort, some(got), some(want))
	}
}

// best asks for the best copy at a place.
func best(t *testing.T, data string, at int, effort api.Effort, length, dist int) {
	t.Helper()
	if l, d, e := match.Best([]byte(data), at, effort); l != length || d != dist || e != api.OK {
		t.Errorf("Best(%q, %d, %v) = %d, %d, %d, want %d, %d", some([]byte(data)), at, effort, l, d, e, length, dist)
	}
}

// expands asks for the text of tokens, within each limit that it may have.
func expands(t *testing.T, tokens []api.Token, want string) {
	t.Helper()
	for _, limit := range []int{len(want), len(want) + 1, api.MaxCapacity} {
		if text, e := match.Expand(tokens, limit); string(text) != want || e != api.OK {
			t.Errorf("Expand(%v, %d) = %q, %d, want %q", some(tokens), limit, some(text), e, some([]byte(want)))
		}
	}
	if len(want) > 0 {
		expandFails(t, tokens, len(want)-1, api.ErrMatchLimit)
		expandFails(t, tokens, 0, api.ErrMatchLimit)
	}
}

func expandFails(t *testing.T, tokens []api.Token, limit int, want api.Errno) {
	t.Helper()
	if text, e := match.Expand(tokens, limit); text != nil || e != want {
		t.Errorf("Expand(%v, %d) = %q, %d, want %d", some(tokens), limit, some(text), e, want)
	}
}

// refused asks all three calls that take an effort for ErrArg.
func refused(t *testing.T, data []byte, at int, effort api.Effort) {
	t.Helper()
	if length, dist, e := match.Best(data, at, effort); length != 0 || dist != 0 || e != api.ErrArg {
		t.Errorf("Best of %d bytes at %d with %v: %d, %d, %d", len(data), at, effort, length, dist, e)
	}
	if tokens, e := match.Tokens(data, effort); tokens != nil || e != api.ErrArg {
		t.Errorf("Tokens of %d bytes with %v: %v, %d", len(data), effort, some(tokens), e)
	}
	each := match.Each(data, effort)
	if each == nil {
		t.Fatalf("Each of %d bytes with %v is nil", len(data), effort)
	}
	for token := range each {
		t.Errorf("Each of %d bytes with %v gives %v", len(data), effort, token)
	}
}

func TestArguments(t *testing.T) { // P9.1 to P9.3, P0.5
	const least, most = -1 << 63, 1<<63 - 1
	text := []byte("aaaaaa")
	for _, window := range []int{least, -32768, -1, 0, 32769, 65536, 1 << 32, 1<<32 + 1, most} {
		refused(t, text, 3, api.Effort{Window: window, Chain: 9})
		refused(t, text, 3, api.Effort{Window: window, Chain: 9, Lazy: true})
		refused(t, nil, 0, api.Effort{Window: window, Chain: 9})
	}
	for _, chain := range []int{least, -4096, -1, 4097, 8192, 1 << 32, 1<<32 + 1, most} {
		refused(t, text, 3, api.Effort{Window: 9, Chain: chain})
		refused(t, text, 3, api.Effort{Window: 9, Chain: chain, Lazy: true})
		refused(t, nil, 0, api.Effort{Window: 9, Chain: chain})
	}
	refused(t, text, 3, api.Effort{})
	refused(t, make([]byte, api.MaxCapacity+1), 3, full())
	refused(t, make([]byte, 3*api.MaxCapacity), api.MaxCapacity, full())
	for _, window := range []int{1, 2, 32767, 32768} {
		for _, chain := range []int{1, 2, 4095, 4096} {
			best(t, "aaaaaa", 3, api.Effort{Window: window, Chain: chain}, 3, 1)
			tells(t, "aaaaaa", api.Effort{Window: window, Chain: chain}, "a", again(5, 1))
		}
		best(t, "aaaaaa", 3, api.Effort{Window: window}, 0, 0)
		tells(t, "aaaaaa", api.Effort{Window: window}, "aaaaaa")
	}
}

func TestGreatest(t *testing.T) { // P9.1, P9.2, P9.4, P0.1
	data := make([]byte, api.MaxCapacity)
	if length, dist, e := match.Best(data, api.MaxCapacity-3, full()); length != 3 || dist != 1 || e != api.OK {
		t.Errorf("Best = %d, %d, %d", length, dist, e)
	}
	tokens, e := match.Tokens(data, api.Effort{Window: 1, Chain: 1})
	if want := row("\x00", slices.Repeat(row(again(258, 1)), 65027), again(249, 1)); e != api.OK || !slices.Equal(tokens, want) {
		t.Fatalf("%d tokens, %d; the last one is %v", len(tokens), e, tokens[max(0, len(tokens)-1):])
	}
	text, e := match.Expand(tokens, api.MaxCapacity)
	if e != api.OK || !bytes.Equal(text, data) {
		t.Errorf("%d bytes, %d", len(text), e)
	}
	expandFails(t, append(tokens, api.Token{}), api.MaxCapacity, api.ErrMatchLimit)
	expandFails(t, tokens, api.MaxCapacity-1, api.ErrMatchLimit)
}

func TestNilIsEmpty(t *testing.T) { // P0.2
	for _, data := range [][]byte{nil, {}} {
		if tokens, e := match.Tokens(data, lazy()); len(tokens) != 0 || e != api.OK {
			t.Errorf("Tokens = %v, %d", tokens, e)
		}
		for token := range match.Each(data, lazy()) {
			t.Errorf("Each gives %v", token)
		}
		for _, at := range []int{-1, 0, 1} {
			if length, dist, e := match.Best(data, at, lazy()); length != 0 || dist != 0 || e != api.ErrArg {
				t.Errorf("Best at %d = %d, %d, %d", at, length, dist, e)
			}
		}
	}
	for _, tokens := range [][]api.Token{nil, {}} {
		for _, limit := range []int{0, 1, api.MaxCapacity} {
			if text, e := match.Expand(tokens, limit); len(text) != 0 || e != api.OK {
				t.Errorf("Expand within %d = %q, %d", limit, text, e)
			}
		}
	}
}

// roomy is a list with room behind its end that is filled too, and a copy of all of it.
func roomy[T any](list []T, fill T) ([]T, []T) {
	all := append(slices.Clone(list), fill, fill, fill, fill)
	return all[:len(list)], slices.Clone(all)
}

// spoil fills a list and the room behind its end.
func spoil[T any](list []T, v T) {
	list = list[:cap(list)]
	for i := range list {
		list[i] = v
	}
}

func TestArgumentsStay(t *testing.T) { // P0.3: also what lies behind a list's end
	for _, fill := range []byte{'a', 'd', 0} {
		data, all := roomy([]byte("abcabcabd abcabc"), fill)
		match.Best(data, 13, lazy())
		match.Tokens(data, lazy())
		for range match.Each(data, full()) {
		}
		if !bytes.Equal(data[:cap(data)][:len(all)], all) {
			t.Errorf("the data have become %q", data[:cap(data)])
		}
		best(t, string(data), 13, full(), 3, 3)
		if tokens, e := match.Tokens(data, full()); e != api.OK || !slices.Equal(tokens, row("abc", again(5, 3), "d ", again(6, 10))) {
			t.Errorf("Tokens = %v, %d", tokens, e)
		}
	}
	for _, tokens := range [][]api.Token{row("abc", again(5, 3)), row("abc", again(5, 4)), row("abc", again(2, 3)), row("abcdefghijk")} {
		tokens, all := roomy(tokens, again(3, 1))
		match.Expand(tokens, 8)
		if !slices.Equal(tokens[:cap(tokens)][:len(all)], all) {
			t.Errorf("the tokens have become %v", tokens[:cap(tokens)])
		}
	}
}

func TestAnswersAreNew(t *testing.T) { // P0.3
	data := []byte("abcabcabd")
	tokens, _ := match.Tokens(data, full())
	other, _ := match.Tokens(data, full())
	spoil(tokens, again(7, 7))
	if want := row("abc", again(5, 3), "d"); !slices.Equal(other, want) {
		t.Errorf("the other answer has become %v", other)
	}
	text, _ := match.Expand(other, 9)
	more, _ := match.Expand(other, 9)
	spoil(text, 'z')
	if string(more) != "abcabcabd" || string(data) != "abcabcabd" || !slices.Equal(other, row("abc", again(5, 3), "d")) {
		t.Errorf("the other answer has become %q, the data %q, the tokens %v", more, data, other)
	}
}

func TestSideBySide(t *testing.T) { // P0.7: how goroutines run is not to be seen
	texts := []string{letters(1, 3000, 2), letters(2, 3000, 3), strings.Repeat("abcd", 700), anyBytes(3, 2000)}
	want := make([][]api.Token, len(texts))
	for i, text := range texts {
		want[i] = told(t, text, lazy())
	}
	each := match.Each([]byte(texts[0]), lazy())
	var group sync.WaitGroup
	for k := range 16 {
		group.Go(func() {
			i := k % len(texts)
			if tokens, e := match.Tokens([]byte(texts[i]), lazy()); e != api.OK || !slices.Equal(tokens, want[i]) {
				t.Errorf("the text %d has become %d tokens, %d", i, len(tokens), e)
			}
			if got := slices.Collect(each); !slices.Equal(got, want[0]) {
				t.Errorf("one iterator in many loops gives %d tokens", len(got))
			}
		})
	}
	group.Wait()
}
