package squeeze

import (
	"bytes"

	"valise/api"
)

// text is data with what is known of its copies, whatever they cost.
type text struct {
	data    []byte
	spans   []span
	reaches []reach
}

func newText(data []byte, window int) *text {
	all := spans(window)
	return &text{data, all, reaches(data, all)}
}

// step is the cheapest way to say so many bytes at a place. A cost of 0 says that there is none.
type step struct {
	cost   int
	symbol int // of a copy's distance: of several that cost the same the one of the nearest
}

// cheaper says whether a step is to be taken ahead of another one of its length.
func (s step) cheaper(other step) bool {
	return other.cost == 0 || s.cost < other.cost || s.cost == other.cost && s.symbol < other.symbol
}

// choice is what is taken at a place.
type choice struct {
	length, symbol int
}

// cheapest tells the cheapest tokens. The choice at a place hangs on those behind it alone.
func (t *text) cheapest(p prices) []api.Token {
	rest := make([]int, len(t.data)+1)
	taken := make([]choice, len(t.data))
	lengths := p.lengths()
	for behind := range len(t.data) {
		at := len(t.data) - 1 - behind
		var steps [api.MaxMatch + 1]step
		steps[1] = step{cost: p.lit[t.data[at]]}
		most := copies(&steps, t.reaches[at], p.dist)
		for length := api.MinMatch; length <= most; length++ {
			steps[length].cost += lengths[length]
		}
		rest[at], taken[at] = choose(steps[:most+1], rest[at:])
	}
	return t.row(taken)
}

// copies lays down what the distance of a copy of each length costs at a place of that reach, and tells the greatest length, or 1 where there is no copy.
func copies(steps *[api.MaxMatch + 1]step, r reach, dist []int) int {
	most := 1
	for symbol, length := range r {
		s := step{dist[symbol], symbol}
		if length >= api.MinMatch && s.cheaper(steps[length]) {
			steps[length] = s
			most = max(most, int(length))
		}
	}
	for length := most - 1; length >= api.MinMatch; length-- { // what reaches further may be taken shorter
		if steps[length+1].cheaper(steps[length]) {
			steps[length] = steps[length+1]
		}
	}
	return most
}

// choose tells the least of what a step and the rest behind it cost together, and the step: of several such the longest.
func choose(steps []step, rest []int) (int, choice) {
	least, taken := 0, choice{}
	for length := len(steps) - 1; length > 0; length-- {
		s := steps[length]
		sum := s.cost + rest[length]
		if s.cost > 0 && (least == 0 || sum < least) {
			least, taken = sum, choice{length, s.symbol}
		}
	}
	return least, taken
}

// row tells the tokens that are taken one behind the other.
func (t *text) row(taken []choice) []api.Token {
	var tokens []api.Token
	for at := 0; at < len(t.data); at += taken[at].length {
		tokens = append(tokens, t.token(at, taken[at]))
	}
	return tokens
}

// token tells what is taken as a token: a copy comes from the nearest of its symbol's distances from which it may; that there is one of them its reach has said.
func (t *text) token(at int, c choice) api.Token {
	if c.length == 1 {
		return api.Token{Lit: t.data[at]}
	}
	near := t.spans[c.symbol].near
	from := bytes.LastIndex(t.data[:at-near+c.length], t.data[at:at+c.length])
	return api.Token{Len: c.length, Dist: at - from}
}
