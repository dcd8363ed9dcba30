package heap

import "valise/api"

// Order tells the positions of the keys by rising key, those of equal keys by rising position.
func Order(keys []int) []int {
	h := New[int]()
	for at, key := range keys {
		h.Push(key, at)
	}
	order := make([]int, 0, len(keys))
	for _, at := range h.Drain() {
		order = append(order, at)
	}
	return order
}

// Sort tells the values by their rising keys, those of equal keys in the order in which they stand.
func Sort[T any](keys []int, values []T) ([]T, api.Errno) {
	if len(keys) != len(values) {
		return nil, api.ErrHeapPair
	}
	sorted := make([]T, 0, len(values))
	for _, at := range Order(keys) {
		sorted = append(sorted, values[at])
	}
	return sorted, api.OK
}
