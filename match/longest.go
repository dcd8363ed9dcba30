package match

import (
	"bytes"
	"slices"

	"valise/api"
)

// three is the three bytes at a place: what a copy from another place begins with.
func three(data []byte, at int) [api.MinMatch]byte {
	return [api.MinMatch]byte(data[at : at+api.MinMatch])
}

// fits says whether three bytes stand at a place; fewer are never copied.
func fits(data []byte, at int) bool { return at+api.MinMatch <= len(data) }

// candidates tells the rising places within the window that begin with the same three bytes. For one place alone a look at each of them is cheaper than an index.
func candidates(data []byte, at, window int) []int {
	if !fits(data, at) {
		return nil
	}
	var places []int
	want := three(data, at)
	for place := max(0, at-window); place < at; place++ {
		if three(data, place) == want {
			places = append(places, place)
		}
	}
	return places
}

// nearest is the last ones of rising places, no more than chain.
func nearest(places []int, chain int) []int { return places[max(0, len(places)-chain):] }

// longest tells the copy of the greatest run among places, of equals the nearest, if its run is greater than beyond; else the token of length 0.
func longest(data []byte, at int, places []int, beyond int) api.Token {
	most := min(api.MaxMatch, len(data)-at)
	best := api.Token{Len: beyond}
	for _, place := range slices.Backward(places) {
		if best.Len >= most {
			break
		}
		need := best.Len + 1 // a run that is not greater comes from further back for nothing
		if bytes.Equal(data[place:place+need], data[at:at+need]) {
			best = api.Token{Len: run(data, place, at, need, most), Dist: at - place}
		}
	}
	if best.Dist == 0 {
		return api.Token{}
	}
	return best
}

// run tells how many bytes at two places are alike, no more than most, if the first known ones are.
func run(data []byte, from, at, known, most int) int {
	for known < most && data[from+known] == data[at+known] {
		known++
	}
	return known
}
