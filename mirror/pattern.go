package mirror

import (
	"unicode/utf8"

	"valise/api"
)

const (
	slash = '/'
	alone = 1114112 // a byte of no well-formed sequence has this number and its own: no code point has it
)

// part is what a piece of a pattern stands for: one letter, or any number of them, each of which passes the test.
type part struct {
	test func(letter int) bool
	many bool
	need int // so many letters must come at least, for this part and those behind it
	back int // of many: the next part ahead of it that a slash passes (-1: there is none, or a slash passes this one too). A cut that has only come between the two can reach no more than one that has come here
}

// span: all letters from one number to another one.
type span struct{ from, to int }

// letters tells the numbers of a text's letters.
func letters(text string) []int {
	list := make([]int, 0, len(text))
	for len(text) > 0 {
		r, size := utf8.DecodeRuneInString(text)
		number := int(r)
		if r == utf8.RuneError && size == 1 {
			number = alone + int(text[0])
		}
		list = append(list, number)
		text = text[size:]
	}
	return list
}

// read tells a pattern's parts, and behind them one that stands for the end.
func read(pattern string) ([]part, api.Errno) {
	if len(pattern) > api.MaxName {
		return nil, api.ErrArg
	}
	r := &reading{rest: letters(pattern)}
	var parts []part
	for len(r.rest) > 0 {
		p, ok := r.part()
		if !ok {
			return nil, api.ErrPattern
		}
		if n := len(parts); n > 0 && p.many && parts[n-1].many {
			continue // the one ahead is `**`, which stands for all that both stand for
		}
		parts = append(parts, p)
	}
	parts = append(parts, part{test: noLetter})
	join(parts)
	return parts, api.OK
}

// join tells each part what it has to know of the others.
func join(parts []part) {
	edge := -1
	for i := range parts {
		p := &parts[i]
		p.back = edge
		if p.test(slash) {
			p.back, edge = -1, i
		}
	}
	need := 0
	for i := len(parts) - 2; i >= 0; i-- {
		if !parts[i].many {
			need++
		}
		parts[i].need = need
	}
}

func anyLetter(int) bool { return true }

func noLetter(int) bool { return false }

func notSlash(letter int) bool { return letter != slash }

// just is the test for one letter.
func just(letter int) func(int) bool {
	return func(x int) bool { return x == letter }
}

// oneOf is the test for a class; turned, for the letters that are none of it.
func oneOf(class []span, turned bool) func(int) bool {
	return func(x int) bool {
		return x != slash && among(class, x) != turned
	}
}

func among(class []span, letter int) bool {
	for _, s := range class {
		if s.from <= letter && letter <= s.to {
			return true
		}
	}
	return false
}
