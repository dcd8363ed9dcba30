package heap_test

import (
	"math"
	"runtime"
	"testing"
	"weak"

	"valise/heap"
)

// filled is a heap of numbers, each its own key.
func filled(keys ...int) *heap.Heap[int] {
	h := heap.New[int]()
	for _, k := range keys {
		h.Push(k, k)
	}
	return h
}

func count[T any](t *testing.T, h *heap.Heap[T], want int) {
	t.Helper()
	if n := h.Len(); n != want {
		t.Errorf("Len = %d, want %d", n, want)
	}
}

func peeks[T comparable](t *testing.T, h *heap.Heap[T], key int, value T) {
	t.Helper()
	n := h.Len()
	for range 2 { // the second tells that the first left all as it was
		if k, v, ok := h.Peek(); k != key || v != value || !ok {
			t.Errorf("Peek = %d, %v, %v, want %d, %v, true", k, v, ok, key, value)
		}
		count(t, h, n)
	}
}

// pops wants Peek to tell ahead what Pop then answers.
func pops[T comparable](t *testing.T, h *heap.Heap[T], key int, value T) {
	t.Helper()
	peeks(t, h, key, value)
	n := h.Len()
	if k, v, ok := h.Pop(); k != key || v != value || !ok {
		t.Errorf("Pop = %d, %v, %v, want %d, %v, true", k, v, ok, key, value)
	}
	count(t, h, n-1)
}

func holdsNothing[T comparable](t *testing.T, h *heap.Heap[T]) {
	t.Helper()
	var zero T
	for range 2 {
		count(t, h, 0)
		if k, v, ok := h.Peek(); k != 0 || v != zero || ok {
			t.Errorf("Peek of nothing = %d, %v, %v", k, v, ok)
		}
		if k, v, ok := h.Pop(); k != 0 || v != zero || ok {
			t.Errorf("Pop of nothing = %d, %v, %v", k, v, ok)
		}
		for k, v := range h.Drain() {
			t.Errorf("a turn over nothing: %d, %v", k, v)
		}
	}
}

func TestNewHoldsNothing(t *testing.T) { // P4.1, P4.3
	if heap.New[int]() == nil {
		t.Fatal("New is nil")
	}
	holdsNothing(t, heap.New[int]())
	holdsNothing(t, heap.New[string]())
	holdsNothing(t, heap.New[*int]())
	holdsNothing(t, heap.New[any]())
	holdsNothing(t, heap.New[struct{}]())
	holdsNothing(t, heap.New[[3]float64]())
}

func TestLenCounts(t *testing.T) { // P4.1
	h := heap.New[int]()
	for i := range 100 {
		count(t, h, i)
		h.Push(-i, i)
	}
	for i := range 100 {
		count(t, h, 100-i)
		h.Pop()
	}
	holdsNothing(t, h)
	h.Push(1, 2)
	count(t, h, 1)
	pops(t, h, 1, 2)
	holdsNothing(t, h)
}

func TestKeysOfAnySize(t *testing.T) { // P4.2, P4.3: the least and the greatest among them
	keys := []int{math.MaxInt, 0, math.MinInt, 1, math.MinInt + 1, -1, math.MaxInt - 1}
	rising := []int{math.MinInt, math.MinInt + 1, -1, 0, 1, math.MaxInt - 1, math.MaxInt}
	h := filled(keys...)
	for _, k := range rising {
		pops(t, h, k, k)
	}
	holdsNothing(t, h)
	h = filled(math.MinInt, math.MaxInt)
	pops(t, h, math.MinInt, math.MinInt)
	pops(t, h, math.MaxInt, math.MaxInt)
	h = filled(math.MaxInt, math.MinInt)
	pops(t, h, math.MinInt, math.MinInt)
	pops(t, h, math.MaxInt, math.MaxInt)
}

func TestEqualKeysComeInTheirTurn(t *testing.T) { // P4.3
	for _, key := range []int{0, 7, -7, math.MinInt, math.MaxInt} {
		for n := range 70 {
			h := heap.New[int]()
			for i := range n {
				h.Push(key, i)
			}
			for i := range n {
				pops(t, h, key, i)
			}
			holdsNothing(t, h)
		}
	}
}

// TestTurnsOutlastTakingOut: the turn is a value's time, not its place among those that are held.
func TestTurnsOutlastTakingOut(t *testing.T) { // P4.3
	h := heap.New[int]()
	next := 0
	for i := range 300 {
		h.Push(3, 2*i)
		h.Push(3, 2*i+1)
		pops(t, h, 3, next)
		next++
	}
	for ; next < 600; next++ {
		pops(t, h, 3, next)
	}
	holdsNothing(t, h)
	h.Push(3, 1)
	h.Push(3, 0)
	pops(t, h, 3, 1)
	pops(t, h, 3, 0)
}

func TestTurnsWithinEachKey(t *testing.T) { // P4.3
	h := heap.New[int]()
	for i := range 500 {
		h.Push(9-i%10, i)
	}
	for key := range 10 {
		for i := 9 - key; i < 500; i += 10 {
			pops(t, h, key, i)
		}
	}
	holdsNothing(t, h)
}

func TestSameValueUnderSeveralKeys(t *testing.T) { // P4.2
	h := heap.New[string]()
	for _, k := range []int{4, -4, 4, 0, 4} {
		h.Push(k, "same")
	}
	h.Push(0, "other")
	for _, k := range []int{-4, 0} {
		pops(t, h, k, "same")
	}
	pops(t, h, 0, "other")
	for range 3 {
		pops(t, h, 4, "same")
	}
	holdsNothing(t, h)
}

func TestEveryOrderOfPuttingIn(t *testing.T) { // P4.3
	var put func(ahead []int)
	put = func(ahead []int) {
		if len(ahead) == 5 {
			checkTakenOut(t, ahead)
			return
		}
		for k := range 4 {
			put(append(ahead[:len(ahead):len(ahead)], k))
		}
	}
	put(nil)
}

func checkTakenOut(t *testing.T, keys []int) {
	t.Helper()
	h := heap.New[int]()
	for i, k := range keys {
		h.Push(k, i)
	}
	for key := range 4 {
		for i, k := range keys {
			if k == key {
				pops(t, h, key, i)
			}
		}
	}
	holdsNothing(t, h)
}

func TestValuesAreHandedOutAsTheyCame(t *testing.T) {
	x, y := 1, 1
	pointers := heap.New[*int]()
	pointers.Push(2, &y)
	pointers.Push(1, &x)
	pointers.Push(3, nil)
	pops(t, pointers, 1, &x)
	pops(t, pointers, 2, &y)
	pops(t, pointers, 3, nil)

	type pair struct {
		name string
		size [2]int
	}
	pairs := heap.New[pair]()
	pairs.Push(1, pair{"b", [2]int{3, 4}})
	pairs.Push(0, pair{"a", [2]int{1, 2}})
	pops(t, pairs, 0, pair{"a", [2]int{1, 2}})
	pops(t, pairs, 1, pair{"b", [2]int{3, 4}})

	mixed := heap.New[any]()
	mixed.Push(1, "text")
	mixed.Push(1, 5)
	mixed.Push(0, nil)
	pops(t, mixed, 0, nil)
	pops(t, mixed, 1, any("text"))
	pops(t, mixed, 1, any(5))

	empty := heap.New[struct{}]()
	empty.Push(1, struct{}{})
	empty.Push(-1, struct{}{})
	pops(t, empty, -1, struct{}{})
	pops(t, empty, 1, struct{}{})
	holdsNothing(t, empty)
}

// TestValuesAreNotLookedAt: values that can't be compared, or are unlike themselves.
func TestValuesAreNotLookedAt(t *testing.T) {
	calls := heap.New[func() int]()
	calls.Push(2, func() int { return 2 })
	calls.Push(1, func() int { return 1 })
	calls.Push(3, nil)
	for want := 1; want <= 2; want++ {
		if k, f, ok := calls.Pop(); k != want || f() != want || !ok {
			t.Errorf("Pop of functions = %d, %v", k, ok)
		}
	}
	if k, f, ok := calls.Pop(); k != 3 || f != nil || !ok {
		t.Errorf("Pop of no function = %d, %v", k, ok)
	}
	odd := heap.New[float64]()
	odd.Push(1, math.NaN())
	odd.Push(1, 1)
	if _, v, ok := odd.Pop(); v == v || !ok {
		t.Errorf("Pop = %v, want a NaN", v)
	}
	pops(t, odd, 1, 1)
	lists := heap.New[[]int]()
	list := []int{1, 2, 3}
	lists.Push(0, list[:2])
	if _, v, _ := lists.Pop(); len(v) != 2 || cap(v) != 3 || &v[0] != &list[0] {
		t.Errorf("a list came out as %v of room %d", v, cap(v))
	}
}

func TestHeapsApart(t *testing.T) { // P4.7, P0.7
	a, b := heap.New[int](), heap.New[int]()
	for i := range 50 {
		a.Push(i, i)
		b.Push(-i, 1000+i)
	}
	for i := range 25 {
		pops(t, a, i, i)
		a.Push(50, 2000+i)
		count(t, b, 50-i)
		pops(t, b, i-49, 1049-i)
		count(t, a, 50)
	}
	for i := 25; i < 50; i++ {
		pops(t, a, i, i)
		pops(t, b, i-49, 1049-i)
	}
	holdsNothing(t, b)
	for i := range 25 {
		pops(t, a, 50, 2000+i)
	}
	holdsNothing(t, a)
}

func TestHeapsApartInNestedLoops(t *testing.T) { // P4.7
	a, b := filled(1, 2), filled(3, 4)
	var seen []int
	for k := range a.Drain() {
		seen = append(seen, k)
		for l := range b.Drain() {
			seen = append(seen, l)
			a.Push(l, l)
			break
		}
	}
	if want := []int{1, 3, 2, 4, 3, 4}; !equal(seen, want) {
		t.Errorf("seen %v, want %v", seen, want)
	}
	holdsNothing(t, a)
	holdsNothing(t, b)
}

func TestNilHeap(t *testing.T) { // P4.8, P0.6
	var h *heap.Heap[int]
	holdsNothing(t, h)
	h.Push(1, 2)
	holdsNothing(t, h)
	if h.Drain() == nil {
		t.Error("Drain of a nil heap is nil")
	}
	holdsNothing[string](t, nil)
}

func TestBareHeap(t *testing.T) { // P0.1: one that New has not made
	var h heap.Heap[int]
	holdsNothing(t, &h)
	h.Push(2, 1)
	h.Push(1, 2)
	pops(t, &h, 1, 2)
	pops(t, &h, 2, 1)
	holdsNothing(t, &h)
}

// TestWhatIsOutIsNotKept: a value that was taken out lives no longer than its taker lets it.
func TestWhatIsOutIsNotKept(t *testing.T) { // P0.3
	h, traces := heap.New[*[64]int](), []weak.Pointer[[64]int]{}
	for i := range 40 {
		value := new([64]int)
		value[0] = i
		traces = append(traces, weak.Make(value))
		h.Push(i%5, value)
	}
	for h.Len() > 1 {
		h.Pop()
	}
	runtime.GC()
	left := 0
	for _, trace := range traces {
		if trace.Value() != nil {
			left++
		}
	}
	if left != 1 {
		t.Errorf("%d values live, want the one that is still in", left)
	}
	if _, v, _ := h.Pop(); v[0] != 39 {
		t.Errorf("the last value is %d", v[0])
	}
}

// TestManyValues would not end in time if a call looked at all that the heap holds.
func TestManyValues(t *testing.T) {
	const many = 1 << 20
	for _, key := range []func(int) int{
		func(i int) int { return i },
		func(i int) int { return -i },
		func(i int) int { return 0 },
		func(i int) int { return i * 7919 % many },
	} {
		h := heap.New[int]()
		for i := range many {
			h.Push(key(i), i)
		}
		last, at := math.MinInt, -1
		for k, v := range h.Drain() {
			if k < last || k == last && v < at || k != key(v) {
				t.Fatalf("%d, %d behind %d, %d", k, v, last, at)
			}
			last, at = k, v
		}
	}
}
