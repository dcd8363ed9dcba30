package heap_test

import (
	"iter"
	"slices"
	"testing"

	"valise/heap"
)

func equal(a, b []int) bool { return slices.Equal(a, b) }

// keysOf ranges to the end and gives the keys; each value must be its own key.
func keysOf(t *testing.T, all iter.Seq2[int, int]) []int {
	t.Helper()
	var keys []int
	for k, v := range all {
		if k != v {
			t.Errorf("the key %d with the value %d", k, v)
		}
		keys = append(keys, k)
	}
	return keys
}

func TestDrainAll(t *testing.T) { // P4.4
	h := filled(3, 1, 4, 1, 5, 9, 2, 6, 5, 3, 5)
	if got, want := keysOf(t, h.Drain()), []int{1, 1, 2, 3, 3, 4, 5, 5, 5, 6, 9}; !equal(got, want) {
		t.Errorf("drained %v, want %v", got, want)
	}
	holdsNothing(t, h)
}

func TestDrainKeepsTurns(t *testing.T) { // P4.4
	h := heap.New[string]()
	for _, v := range []string{"b", "a", "c", "a"} {
		h.Push(1, v)
	}
	h.Push(0, "z")
	seen := ""
	for _, v := range h.Drain() {
		seen += v
	}
	if seen != "zbaca" {
		t.Errorf("seen %q", seen)
	}
}

func TestDrainAloneTakesNothing(t *testing.T) { // P4.4
	h := filled(2, 1)
	for range 3 {
		if h.Drain() == nil {
			t.Fatal("Drain is nil")
		}
		count(t, h, 2)
	}
	pops(t, h, 1, 1)
	pops(t, h, 2, 2)
}

func TestDrainTakesOutAheadOfTheBody(t *testing.T) { // P4.4
	h := filled(1, 2, 3, 4)
	for k := range h.Drain() {
		count(t, h, 4-k)
		if k < 4 {
			peeks(t, h, k+1, k+1)
		}
	}
}

func TestDrainTakesNoMoreThanItGives(t *testing.T) { // P4.4
	for stop := 1; stop <= 6; stop++ {
		h := filled(5, 3, 1, 6, 2, 4)
		for k := range h.Drain() {
			if k == stop {
				break
			}
		}
		count(t, h, 6-stop)
		for k := stop + 1; k <= 6; k++ {
			pops(t, h, k, k)
		}
		holdsNothing(t, h)
	}
}

func TestDrainLeftByReturnAndPanic(t *testing.T) { // P4.4: a loop stops early in other ways too
	h := filled(1, 2, 3)
	func() {
		for range h.Drain() {
			return
		}
	}()
	peeks(t, h, 2, 2)
	func() {
		defer func() { recover() }()
		for range h.Drain() {
			panic("the body's own")
		}
	}()
	count(t, h, 1)
	pops(t, h, 3, 3)
}

func TestDrainSeesWhatIsPutIn(t *testing.T) { // P4.4
	h := heap.New[string]()
	h.Push(5, "first")
	h.Push(5, "second")
	var seen []string
	for _, v := range h.Drain() {
		seen = append(seen, v)
		switch v {
		case "first":
			h.Push(8, "behind")
			h.Push(5, "equal")
			h.Push(2, "ahead")
		case "behind":
			h.Push(-1, "late")
		}
	}
	if want := []string{"first", "ahead", "second", "equal", "behind", "late"}; !slices.Equal(seen, want) {
		t.Errorf("seen %q, want %q", seen, want)
	}
	holdsNothing(t, h)
}

func TestDrainGoesOnWhereTheBodyPutsInLast(t *testing.T) { // P4.4: the heap held nothing between the turns
	h := filled(0)
	turns := 0
	for k := range h.Drain() {
		if k != turns {
			t.Errorf("turn %d gives %d", turns, k)
		}
		if turns++; turns < 100 {
			count(t, h, 0)
			h.Push(turns, turns)
		}
	}
	if turns != 100 {
		t.Errorf("%d turns, want 100", turns)
	}
}

func TestDrainWhoseBodyTakesOut(t *testing.T) { // P4.4
	h := filled(1, 2, 3, 4, 5)
	var seen []int
	for k := range h.Drain() {
		seen = append(seen, k)
		h.Pop()
	}
	if want := []int{1, 3, 5}; !equal(seen, want) {
		t.Errorf("seen %v, want %v", seen, want)
	}
	h = filled(1, 2, 3)
	seen = nil
	for k := range h.Drain() {
		seen = append(seen, k)
		seen = append(seen, keysOf(t, h.Drain())...)
	}
	if want := []int{1, 2, 3}; !equal(seen, want) {
		t.Errorf("seen %v, want %v", seen, want)
	}
	holdsNothing(t, h)
}

func TestDrainRangedSeveralTimes(t *testing.T) { // P4.4
	h := heap.New[int]()
	all := h.Drain() // made while the heap holds nothing
	for _, round := range [][]int{{}, {1}, {2, 3}, {}, {-1, 4, 9}} {
		for _, k := range slices.Backward(round) {
			h.Push(k, k)
		}
		if got := keysOf(t, all); !equal(got, round) {
			t.Errorf("drained %v, want %v", got, round)
		}
	}
	h.Push(2, 2)
	h.Push(1, 1)
	for range all {
		break
	}
	h.Push(0, 0)
	if got, want := keysOf(t, all), []int{0, 2}; !equal(got, want) {
		t.Errorf("drained %v, want %v", got, want)
	}
}

func TestDrainTwoAtOnce(t *testing.T) { // P4.4: two iterators, and one within itself, take from one heap
	h := filled(1, 2, 3, 4, 5, 6)
	one, two := h.Drain(), h.Drain()
	var seen []int
	for k := range one {
		seen = append(seen, k)
		for l := range two {
			seen = append(seen, -l)
			break
		}
		for l := range one {
			seen = append(seen, 10*l)
			break
		}
	}
	if want := []int{1, -2, 30, 4, -5, 60}; !equal(seen, want) {
		t.Errorf("seen %v, want %v", seen, want)
	}
}

func TestDrainPulled(t *testing.T) { // P4.4
	h := filled(2, 1, 3)
	next, stop := iter.Pull2(h.Drain())
	count(t, h, 3)
	for want := 1; want <= 2; want++ {
		if k, v, ok := next(); k != want || v != want || !ok {
			t.Errorf("next = %d, %d, %v", k, v, ok)
		}
		count(t, h, 3-want)
	}
	stop()
	pops(t, h, 3, 3)
}

func TestDrainWithoutLoop(t *testing.T) { // P0.1
	h := filled(1)
	h.Drain()(nil)
	pops(t, h, 1, 1)
	var none *heap.Heap[int]
	none.Drain()(nil)
}
