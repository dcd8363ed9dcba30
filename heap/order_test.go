package heap_test

import (
	"math"
	"slices"
	"testing"

	"valise/api"
	"valise/heap"
)

func TestOrder(t *testing.T) { // P4.5
	for _, c := range []struct{ keys, want []int }{
		{nil, nil},
		{[]int{}, nil},
		{[]int{0}, []int{0}},
		{[]int{math.MinInt}, []int{0}},
		{[]int{1, 2}, []int{0, 1}},
		{[]int{2, 1}, []int{1, 0}},
		{[]int{4, 4, 4, 4, 4, 4}, []int{0, 1, 2, 3, 4, 5}},
		{[]int{1, 0, 1, 0, 1, 0}, []int{1, 3, 5, 0, 2, 4}},
		{[]int{3, 2, 1, 0, -1}, []int{4, 3, 2, 1, 0}},
		{[]int{math.MaxInt, math.MinInt, 0, math.MaxInt, math.MinInt}, []int{1, 4, 2, 0, 3}},
	} {
		if got := heap.Order(c.keys); !equal(got, c.want) {
			t.Errorf("Order(%v) = %v, want %v", c.keys, got, c.want)
		}
	}
}

func TestSort(t *testing.T) { // P4.6
	for _, c := range []struct {
		keys   []int
		values string
		want   string
	}{
		{nil, "", ""},
		{[]int{}, "", ""},
		{[]int{5}, "a", "a"},
		{[]int{1, 1, 1, 1}, "dacb", "dacb"},
		{[]int{4, 3, 2, 1}, "abcd", "dcba"},
		{[]int{1, 0, 1, 0}, "aabb", "abab"},
		{[]int{math.MaxInt, 0, math.MinInt}, "abc", "cba"},
	} {
		if got, e := heap.Sort(c.keys, []byte(c.values)); string(got) != c.want || e != api.OK {
			t.Errorf("Sort(%v, %q) = %q, %d, want %q", c.keys, c.values, got, e, c.want)
		}
	}
}

func TestSortOfUnlikeLists(t *testing.T) { // P4.6, P0.4
	for n := range 4 {
		for m := range 4 {
			got, e := heap.Sort(make([]int, n), make([]string, m))
			if n == m && (e != api.OK || len(got) != n) || n != m && (e != api.ErrHeapPair || got != nil) {
				t.Errorf("Sort of %d keys, %d values = %q, %d", n, m, got, e)
			}
		}
	}
}

func TestSortOfAnyType(t *testing.T) { // P4.6
	x, y := 1, 2
	if got, e := heap.Sort([]int{1, 0, 2}, []*int{&x, &y, nil}); e != api.OK || !slices.Equal(got, []*int{&y, &x, nil}) {
		t.Errorf("Sort of pointers = %v, %d", got, e)
	}
	lists, e := heap.Sort([]int{1, 0}, [][]int{{1}, nil})
	if e != api.OK || len(lists) != 2 || lists[0] != nil || !equal(lists[1], []int{1}) {
		t.Errorf("Sort of lists = %v, %d", lists, e)
	}
	calls, e := heap.Sort([]int{1, 0}, []func() int{nil, func() int { return x }})
	if e != api.OK || len(calls) != 2 || calls[0]() != 1 || calls[1] != nil {
		t.Errorf("Sort of functions: %d of them, %d", len(calls), e)
	}
	if got, e := heap.Sort([]int{1, 0}, []any{"a", 2}); e != api.OK || !slices.Equal(got, []any{2, "a"}) {
		t.Errorf("Sort of anything = %v, %d", got, e)
	}
	if got, e := heap.Sort([]int{1, 0}, make([]struct{}, 2)); e != api.OK || len(got) != 2 {
		t.Errorf("Sort of empty structs = %v, %d", got, e)
	}
}

// TestSortIsOrder holds the one against the other over all short lists of keys.
func TestSortIsOrder(t *testing.T) { // P4.5, P4.6
	for n := range 6 {
		keys := make([]int, n)
		for {
			checkOrder(t, keys)
			at := 0
			for ; at < n && keys[at] == 3; at++ {
				keys[at] = 0
			}
			if at == n {
				break
			}
			keys[at]++
		}
	}
}

func checkOrder(t *testing.T, keys []int) {
	t.Helper()
	var want, values []int
	for key := range 4 {
		for i, k := range keys {
			if k == key {
				want = append(want, i)
			}
		}
	}
	for i := range keys {
		values = append(values, 100+i)
	}
	order := heap.Order(keys)
	sorted, e := heap.Sort(keys, values)
	if !equal(order, want) || len(sorted) != len(want) || e != api.OK {
		t.Fatalf("keys %v: Order %v, want %v; Sort %v, %d", keys, order, want, sorted, e)
	}
	for i, at := range order {
		if sorted[i] != values[at] {
			t.Fatalf("keys %v: Sort %v, Order %v", keys, sorted, order)
		}
	}
}

// roomOf is a list with all the room up to its capacity.
func roomOf[T any](list []T) []T { return list[:cap(list)] }

func TestListsAreNotChangedOrKept(t *testing.T) { // P0.3
	allKeys := []int{3, 1, 2, 1, 77, 78}
	allValues := []int{30, 10, 20, 11, 97, 98}
	keys, values := allKeys[:4], allValues[:4]
	order := heap.Order(keys)
	again := heap.Order(keys)
	sorted, _ := heap.Sort(keys, values)
	twice, _ := heap.Sort(keys, values)
	if !equal(allKeys, []int{3, 1, 2, 1, 77, 78}) || !equal(allValues, []int{30, 10, 20, 11, 97, 98}) {
		t.Errorf("what was handed in is now %v, %v", allKeys, allValues)
	}
	for _, list := range [][]int{order, sorted} {
		room := roomOf(list)
		for i := range room {
			room[i] = -5
		}
	}
	if !equal(allKeys, []int{3, 1, 2, 1, 77, 78}) || !equal(allValues, []int{30, 10, 20, 11, 97, 98}) {
		t.Errorf("an answer shares memory with %v, %v", allKeys, allValues)
	}
	clear(allKeys)
	clear(allValues)
	if !equal(again, []int{1, 3, 2, 0}) || !equal(twice, []int{10, 11, 20, 30}) {
		t.Errorf("answers share memory: %v, %v", again, twice)
	}
}

func TestSortOfSortedListIsNew(t *testing.T) { // P0.3
	for _, keys := range [][]int{{1}, {1, 2, 3}, {5, 5}} {
		values := slices.Clone(keys)
		sorted, _ := heap.Sort(keys, values)
		sorted[0] = -1
		if values[0] == -1 || keys[0] == -1 {
			t.Errorf("Sort(%v) hands out what it was handed", keys)
		}
		order := heap.Order(keys)
		order[0] = -1
		if keys[0] == -1 || heap.Order(keys)[0] != 0 {
			t.Errorf("Order(%v) hands out what it was handed", keys)
		}
	}
}

func TestOrderOfManyKeys(t *testing.T) { // P4.5
	const many = 1 << 18
	keys := make([]int, many)
	for i := range keys {
		keys[i] = i * 7919 % 1000
	}
	order := heap.Order(keys)
	if len(order) != many {
		t.Fatalf("%d positions, want %d", len(order), many)
	}
	for i := 1; i < many; i++ {
		a, b := order[i-1], order[i]
		if keys[a] > keys[b] || keys[a] == keys[b] && a >= b {
			t.Fatalf("the position %d ahead of %d", a, b)
		}
	}
}
