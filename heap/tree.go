package heap

// ahead tells whether the item at place i comes out earlier than the one at place j. Keys are compared, not subtracted: their difference may not fit an int.
func (h *Heap[T]) ahead(i, j int) bool {
	a, b := &h.items[i], &h.items[j]
	if a.key != b.key {
		return a.key < b.key
	}
	return a.turn < b.turn
}

func (h *Heap[T]) swap(i, j int) {
	h.items[i], h.items[j] = h.items[j], h.items[i]
}

// rise moves the item at that place up past every parent that it is ahead of.
func (h *Heap[T]) rise(at int) {
	for at > 0 {
		parent := (at - 1) / 2
		if !h.ahead(at, parent) {
			return
		}
		h.swap(at, parent)
		at = parent
	}
}

// sink moves the item at that place down past every child that is ahead of it.
func (h *Heap[T]) sink(at int) {
	for {
		first := at
		for child := 2*at + 1; child <= 2*at+2 && child < len(h.items); child++ {
			if h.ahead(child, first) {
				first = child
			}
		}
		if first == at {
			return
		}
		h.swap(at, first)
		at = first
	}
}

// drop takes the first item out of a heap that holds one. The room that it leaves is wiped, so that a value that is out is not kept.
func (h *Heap[T]) drop() {
	last := len(h.items) - 1
	h.items[0] = h.items[last]
	h.items[last] = item[T]{}
	h.items = h.items[:last]
	h.sink(0)
}
