package squeeze

import (
	"bytes"
	"cmp"
	"slices"

	"valise/api"
)

// reach has for each distance's symbol how long a copy at one place may be from any of its distances: 0 to 258. What a copy costs hangs on its symbols alone, so this is all that is to be known of where copies come from until one is taken.
type reach [distSymbols]uint16

// ranking has the places of a text in the order of the bytes with which they begin, as many as a copy may have. Of all places on one side the neighbour has the longest run: so the longest one among any places is that of one of two.
type ranking struct {
	data   []byte
	places []int    // by their rank
	ranks  []uint16 // by their place
}

func newRanking(data []byte) *ranking {
	r := &ranking{data: data, places: make([]int, len(data)), ranks: make([]uint16, len(data))}
	for at := range data {
		r.places[at] = at
	}
	slices.SortFunc(r.places, func(a, b int) int {
		return cmp.Or(bytes.Compare(r.beginning(a), r.beginning(b)), cmp.Compare(a, b))
	})
	for rank, at := range r.places {
		r.ranks[at] = uint16(rank)
	}
	return r
}

// beginning is the bytes at a place that a copy may have.
func (r *ranking) beginning(at int) []byte {
	return r.data[at:min(at+api.MaxMatch, len(r.data))]
}

// reaches tells the reach of each place.
func reaches(data []byte, all []span) []reach {
	r := newRanking(data)
	found := make([]reach, len(data))
	for symbol, s := range all {
		r.fill(found, symbol, s)
	}
	return found
}

// fill tells for each place how long a copy from one symbol's distances may be. A run that goes on at the next place is shorter there by one byte: so only what is longer is looked for.
func (r *ranking) fill(found []reach, symbol int, s span) {
	var shelf []uint16 // the ranks of the places that lie so far back, rising
	length := 0
	for at := s.near; at < len(r.data); at++ {
		shelf = put(shelf, r.ranks[at-s.near])
		if gone := at - s.far - 1; gone >= 0 {
			shelf = drop(shelf, r.ranks[gone])
		}
		length = r.longest(at, shelf, max(length-1, 0))
		found[at][symbol] = uint16(length)
	}
}

// longest tells the greatest run among the places of a shelf, if it is known to be at least known.
func (r *ranking) longest(at int, shelf []uint16, known int) int {
	i, _ := slices.BinarySearch(shelf, r.ranks[at])
	for _, rank := range shelf[max(i-1, 0):min(i+1, len(shelf))] {
		known = r.longer(r.places[rank], at, known)
	}
	return known
}

// longer tells the run of two places, if it is greater than known; else known.
func (r *ranking) longer(from, at, known int) int {
	most := min(api.MaxMatch, len(r.data)-at)
	if !bytes.Equal(r.data[from:from+known], r.data[at:at+known]) {
		return known
	}
	for known < most && r.data[from+known] == r.data[at+known] {
		known++
	}
	return known
}

// put lays a rank onto a shelf, in its order.
func put(shelf []uint16, rank uint16) []uint16 {
	i, _ := slices.BinarySearch(shelf, rank)
	return slices.Insert(shelf, i, rank)
}

// drop takes a rank off the shelf that has it.
func drop(shelf []uint16, rank uint16) []uint16 {
	i, _ := slices.BinarySearch(shelf, rank)
	return slices.Delete(shelf, i, i+1)
}
