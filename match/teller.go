package match

import "valise/api"

// teller tells data from the front. It holds no more places than the window has, however long data is.
type teller struct {
	data   []byte
	effort api.Effort
	places map[[api.MinMatch]byte][]int // of three bytes, rising: the nearest ones are at the end
	next   int                          // the places ahead of it have come in
}

func newTeller(data []byte, effort api.Effort) *teller {
	return &teller{data: data, effort: effort, places: map[[api.MinMatch]byte][]int{}}
}

// tell gives the tokens, until there are no more or the loop stops.
func (t *teller) tell(yield func(api.Token) bool) {
	var ahead api.Token // the longer copy for which the byte ahead of it was put off
	for at := 0; at < len(t.data); {
		token := ahead
		if token.Len == 0 {
			token = t.best(at, api.MinMatch-1)
		}
		ahead = t.putOff(at, token)
		if token.Len == 0 || ahead.Len > 0 {
			token = api.Token{Lit: t.data[at]}
		}
		if !yield(token) {
			return
		}
		at += max(token.Len, 1)
	}
}

// putOff tells the copy at the next place, if it is to be waited for; else the token of length 0.
func (t *teller) putOff(at int, here api.Token) api.Token {
	if !t.effort.Lazy || here.Len == 0 {
		return api.Token{}
	}
	return t.best(at+1, here.Len)
}

// best tells the best copy at a place, if it is longer than beyond; else the token of length 0. The places that it is asked for never fall.
func (t *teller) best(at, beyond int) api.Token {
	if !fits(t.data, at) {
		return api.Token{}
	}
	for ; t.next < at; t.next++ {
		t.enter(t.next)
		if far := t.next - t.effort.Window; far >= 0 {
			t.leave(far)
		}
	}
	return longest(t.data, at, nearest(t.places[three(t.data, at)], t.effort.Chain), beyond)
}

func (t *teller) enter(place int) {
	key := three(t.data, place)
	t.places[key] = append(t.places[key], place)
}

// leave takes out the place that came in first of all that are there, so it is the first of its list.
func (t *teller) leave(place int) {
	key := three(t.data, place)
	if rest := t.places[key][1:]; len(rest) > 0 {
		t.places[key] = rest
		return
	}
	delete(t.places, key)
}
