package heap_test

import (
	"math"
	"math/rand"
	"slices"
	"testing"

	"valise/api"
	"valise/heap"
)

type pair struct{ key, value int }

// queue is a heap by the chapter's words: a list in the order of putting in, looked through for its first.
type queue []pair

func (q queue) first() int {
	at := 0
	for i, p := range q {
		if p.key < q[at].key {
			at = i
		}
	}
	return at
}

func (q queue) peek() (int, int, bool) {
	if len(q) == 0 {
		return 0, 0, false
	}
	p := q[q.first()]
	return p.key, p.value, true
}

func (q *queue) pop() (int, int, bool) {
	key, value, ok := q.peek()
	if ok {
		at := q.first()
		*q = slices.Delete(*q, at, at+1)
	}
	return key, value, ok
}

// twin is a heap with its model; every call goes to both.
type twin struct {
	heap  *heap.Heap[int]
	model queue
}

func drawnKey(r *rand.Rand) int {
	switch r.Intn(10) {
	case 0:
		return math.MinInt + r.Intn(2)
	case 1:
		return math.MaxInt - r.Intn(2)
	case 2:
		return int(r.Uint64())
	}
	return r.Intn(9) - 4
}

func (w *twin) push(r *rand.Rand) {
	key, value := drawnKey(r), r.Intn(5)
	w.heap.Push(key, value)
	w.model = append(w.model, pair{key, value})
}

func (w *twin) pop(t *testing.T) {
	t.Helper()
	k, v, ok := w.heap.Pop()
	if key, value, is := w.model.pop(); k != key || v != value || ok != is {
		t.Fatalf("Pop = %d, %d, %v, want %d, %d, %v", k, v, ok, key, value, is)
	}
}

// drain ranges for a drawn number of turns at most, and puts in and takes out on the way.
func (w *twin) drain(t *testing.T, r *rand.Rand) {
	t.Helper()
	turns := r.Intn(12)
	for k, v := range w.heap.Drain() {
		if key, value, ok := w.model.pop(); k != key || v != value || !ok {
			t.Fatalf("Drain gives %d, %d, want %d, %d, %v", k, v, key, value, ok)
		}
		switch r.Intn(5) {
		case 0:
			w.push(r)
		case 1:
			w.pop(t)
		}
		if turns--; turns <= 0 {
			return
		}
	}
	if len(w.model) != 0 {
		t.Fatalf("Drain ends with %d values in", len(w.model))
	}
}

func (w *twin) same(t *testing.T) {
	t.Helper()
	k, v, ok := w.heap.Peek()
	if key, value, is := w.model.peek(); k != key || v != value || ok != is || w.heap.Len() != len(w.model) {
		t.Fatalf("Peek = %d, %d, %v, want %d, %d, %v; Len %d, want %d", k, v, ok, key, value, is, w.heap.Len(), len(w.model))
	}
}

// TestModel plays drawn calls on two heaps in turns, each against its model.
func TestModel(t *testing.T) { // P4.1 to P4.4, P4.7
	for seed := range int64(300) {
		r := rand.New(rand.NewSource(seed))
		pushes := 3 + r.Intn(5) // of ten calls
		two := []*twin{{heap: heap.New[int]()}, {heap: heap.New[int]()}}
		for range 300 {
			w := two[r.Intn(2)]
			switch n := r.Intn(10); {
			case n < pushes:
				w.push(r)
			case n < 9:
				w.pop(t)
			default:
				w.drain(t, r)
			}
			two[0].same(t)
			two[1].same(t)
		}
		for _, w := range two {
			for len(w.model) > 0 {
				w.pop(t)
			}
			w.pop(t)
		}
	}
}

// TestModelOfLists holds Order and Sort against a stable sort of the library.
func TestModelOfLists(t *testing.T) { // P4.5, P4.6
	for seed := range int64(500) {
		r := rand.New(rand.NewSource(seed))
		n := r.Intn(200)
		keys, values, want := make([]int, n), make([]int, n), make([]int, n)
		for i := range n {
			keys[i], values[i], want[i] = drawnKey(r), r.Intn(1000), i
		}
		slices.SortStableFunc(want, func(a, b int) int {
			switch {
			case keys[a] < keys[b]:
				return -1
			case keys[a] > keys[b]:
				return 1
			}
			return 0
		})
		if got := heap.Order(keys); !equal(got, want) {
			t.Fatalf("Order(%v) = %v, want %v", keys, got, want)
		}
		for i, at := range want {
			want[i] = values[at]
		}
		if got, e := heap.Sort(keys, values); e != api.OK || !equal(got, want) {
			t.Fatalf("Sort(%v, %v) = %v, %d, want %v", keys, values, got, e, want)
		}
	}
}
