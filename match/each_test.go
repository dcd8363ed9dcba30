package match_test

import (
	"errors"
	"iter"
	"slices"
	"strings"
	"testing"

	"valise/api"
	"valise/match"
)

// sample is a text and its tokens.
func sample() (string, []api.Token) {
	return "abcabcabd abcabc", row("abc", again(5, 3), "d ", again(6, 10))
}

// gives asks a loop for these tokens.
func gives(t *testing.T, each iter.Seq[api.Token], want []api.Token) {
	t.Helper()
	if got := slices.Collect(each); !slices.Equal(got, want) {
		t.Errorf("given are %v, want %v", some(got), some(want))
	}
}

func TestEachStopsEarly(t *testing.T) { // P9.3
	text, want := sample()
	each := match.Each([]byte(text), full())
	for stop := 1; stop <= len(want); stop++ {
		n := 0
		for token := range each {
			if token != want[n] {
				t.Errorf("the token %d is %v", n, token)
			}
			if n++; n == stop {
				break
			}
		}
		if n != stop {
			t.Errorf("%d tokens, want %d", n, stop)
		}
		asked := 0
		each(func(api.Token) bool { asked++; return asked < stop })
		if asked != stop {
			t.Errorf("asked %d times, want %d", asked, stop)
		}
	}
	gives(t, each, want)
}

func TestEachSeveralTimes(t *testing.T) { // P9.3: one behind the other, and within one another
	text, want := sample()
	each := match.Each([]byte(text), lazy())
	for range 3 {
		gives(t, each, want)
	}
	n := 0
	for token := range each {
		gives(t, each, want)
		if token != want[n] {
			t.Errorf("the token %d is %v", n, token)
		}
		n++
	}
	next, stop := iter.Pull(each)
	defer stop()
	other, halt := iter.Pull(each)
	defer halt()
	next()
	for i := range want {
		token, ok := next()
		late, also := other()
		if late != want[i] || !also || ok != (i+1 < len(want)) || ok && token != want[i+1] {
			t.Errorf("pulled at %d: %v, %v and %v, %v", i, token, ok, late, also)
		}
	}
	if token, ok := other(); ok {
		t.Errorf("pulled behind the end: %v", token)
	}
}

func TestEachKeepsItsText(t *testing.T) { // P9.3: what becomes of data behind the call, also while a loop goes on
	text, want := sample()
	data := []byte(text)
	each := match.Each(data, full())
	spoil(data, 'z')
	gives(t, each, want)
	copy(data, text)
	var got []api.Token
	for token := range match.Each(data, full()) {
		clear(data)
		got = append(got, token)
	}
	if !slices.Equal(got, want) {
		t.Errorf("given are %v", got)
	}
	gives(t, each, want)
}

func TestEachOfNothing(t *testing.T) { // P9.3, P0.1: never nil, and a plain call without a loop
	for _, each := range []iter.Seq[api.Token]{
		match.Each(nil, full()), match.Each([]byte{}, full()), match.Each([]byte("aaaa"), api.Effort{}), match.Each(make([]byte, api.MaxCapacity+1), full()), match.Each([]byte("aaaa"), api.Effort{Window: 1, Chain: -1}),
	} {
		if each == nil {
			t.Fatal("an iterator is nil")
		}
		gives(t, each, nil)
		each(nil)
	}
	match.Each([]byte("aaaa"), full())(nil)
}

func TestPanicsOfTheBody(t *testing.T) { // P9.3: they are the user's
	text, want := sample()
	each := match.Each([]byte(text), full())
	own := errors.New("own")
	n := 0
	func() {
		defer func() {
			if v := recover(); v != own {
				t.Errorf("the panic is %v", v)
			}
		}()
		for range each {
			if n++; n == 2 {
				panic(own)
			}
		}
	}()
	if n != 2 {
		t.Errorf("at the token %d", n)
	}
	gives(t, each, want)
}

func TestEachGivesAtOnce(t *testing.T) { // P9.3: the first token doesn't wait for the last
	data := []byte(strings.Repeat("abcdefgh", api.MaxCapacity/8))
	each := match.Each(data, full())
	for range 1000 {
		for token := range each {
			if token != row("a")[0] {
				t.Errorf("the first token is %v", token)
			}
			break
		}
	}
}
