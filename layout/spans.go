package layout

import (
	"valise/api"
	"valise/heap"
)

// Extents tells the bytes of the entries, by rising place.
func Extents(a api.Archive) []api.Span {
	var places []int
	var spans []api.Span
	for i := range a.Entries {
		x := &a.Entries[i]
		places = append(places, x.From)
		spans = append(spans, api.Span{From: x.From, To: x.To})
	}
	sorted, _ := heap.Sort(places, spans)
	return sorted
}

// Gaps tells the bytes ahead of the directory that no entry has, by rising place.
func Gaps(a api.Archive) []api.Span {
	var gaps []api.Span
	at := 0 // all places ahead of it are told, or an entry's
	for _, s := range Extents(a) {
		if s.From >= s.To { // it holds no place, and would part a gap in two
			continue
		}
		if to := min(s.From, a.DirAt); at < to {
			gaps = append(gaps, api.Span{From: at, To: to})
		}
		at = max(at, s.To)
	}
	if at < a.DirAt {
		gaps = append(gaps, api.Span{From: at, To: a.DirAt})
	}
	return gaps
}

// overlap tells whether two spans of a list have a byte in common. They stand by rising From and none is empty: if no neighbours overlap, none do.
func overlap(spans []api.Span) bool {
	for i := 1; i < len(spans); i++ {
		if spans[i].From < spans[i-1].To {
			return true
		}
	}
	return false
}

// extentBytes tells how many bytes an entry's extent has, 0 where there can't be so many. The ends may be any ints: as an int their difference could be told with the wrong sign.
func extentBytes(x *api.Entry) int {
	if x.To < x.From {
		return 0
	}
	n := uint(x.To) - uint(x.From)
	if n > api.MaxCapacity {
		return 0
	}
	return int(n)
}
