package plan

import (
	"cmp"
	"slices"

	"valise/api"
)

// picked tells the elements of a list that pass a test, in their order.
func picked[T any](list []T, passes func(T) bool) []T {
	var some []T
	for _, x := range list {
		if passes(x) {
			some = append(some, x)
		}
	}
	return some
}

// ordered tells the elements of a list by rising key, those of one key as they stood.
func ordered[T any](list []T, key func(T) int) []T {
	all := slices.Clone(list)
	slices.SortStableFunc(all, func(x, y T) int { return cmp.Compare(key(x), key(y)) })
	return all
}

// named tells the entry of a name, if there is one: two have never the same.
func named(entries []api.Entry, name string) []api.Entry {
	return picked(entries, func(x api.Entry) bool { return x.Name == name })
}

// without tells the entries of other names.
func without(entries []api.Entry, name string) []api.Entry {
	return picked(entries, func(x api.Entry) bool { return x.Name != name })
}

// byPlace tells the positions of entries in a list, those that lie further ahead in the file first.
func byPlace(entries []api.Entry) []int {
	positions := make([]int, len(entries))
	for i := range positions {
		positions[i] = i
	}
	return ordered(positions, func(i int) int { return entries[i].From })
}
