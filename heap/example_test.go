package heap_test

import (
	"slices"
	"testing"

	"valise/api"
	"valise/heap"
)

func TestExamplePushPop(t *testing.T) { // example 1
	h := heap.New[string]()
	h.Push(5, "a")
	h.Push(3, "b")
	h.Push(5, "c")
	h.Push(3, "d")
	count(t, h, 4)
	pops(t, h, 3, "b")
	pops(t, h, 3, "d")
	peeks(t, h, 5, "a")
	h.Push(5, "e")
	pops(t, h, 5, "a")
	pops(t, h, 5, "c")
	pops(t, h, 5, "e")
	holdsNothing(t, h)
}

func TestExampleOrder(t *testing.T) { // example 2
	for _, c := range []struct{ keys, want []int }{
		{[]int{5, 3, 5, 3, -1}, []int{4, 1, 3, 0, 2}},
		{[]int{}, []int{}},
		{[]int{7}, []int{0}},
	} {
		if got := heap.Order(c.keys); !slices.Equal(got, c.want) {
			t.Errorf("Order(%v) = %v, want %v", c.keys, got, c.want)
		}
	}
}

func TestExampleSort(t *testing.T) { // example 3
	got, e := heap.Sort([]int{2, 1, 2}, []string{"x", "y", "z"})
	if e != api.OK || !slices.Equal(got, []string{"y", "x", "z"}) {
		t.Errorf("Sort = %q, %d", got, e)
	}
	got, e = heap.Sort([]int{1}, []string{})
	if e != api.ErrHeapPair || len(got) != 0 {
		t.Errorf("Sort of unlike lists = %q, %d", got, e)
	}
}

func TestExampleDrainStops(t *testing.T) { // example 4
	h := filled(1, 2, 3)
	var seen []int
	for k := range h.Drain() {
		seen = append(seen, k)
		if len(seen) == 2 {
			break
		}
	}
	if !slices.Equal(seen, []int{1, 2}) {
		t.Errorf("seen %v", seen)
	}
	count(t, h, 1)
	peeks(t, h, 3, 3)
}

func TestExampleDrainPutsIn(t *testing.T) { // example 5
	h := filled(4, 9)
	var seen []int
	for k := range h.Drain() {
		seen = append(seen, k)
		if k == 4 {
			h.Push(6, 6)
		}
	}
	if !slices.Equal(seen, []int{4, 6, 9}) {
		t.Errorf("seen %v", seen)
	}
}
