package items_test

import (
	"testing"

	"valise/items"
)

// spans asks of a table of symbols from the first one on that each base is the one ahead and 2 to the power of that one's further bits.
func spans(t *testing.T, span func(int) (int, int, bool), first int, further []int, base int) {
	t.Helper()
	for i, want := range further {
		if b, n, ok := span(first + i); b != base || n != want || !ok {
			t.Errorf("the symbol %d: %d, %d, %v, want %d, %d", first+i, b, n, ok, base, want)
		}
		base += 1 << want
	}
}

func TestLength(t *testing.T) { // chapter 8, 'Lengths'
	spans(t, items.Length, 257, []int{0, 0, 0, 0, 0, 0, 0, 0, 1, 1, 1, 1, 2, 2, 2, 2, 3, 3, 3, 3, 4, 4, 4, 4, 5, 5, 5, 5}, 3)
	for symbol, base := range map[int]int{265: 11, 266: 13, 269: 19, 273: 35, 277: 67, 281: 131, 284: 227, 285: 258} {
		if b, _, ok := items.Length(symbol); b != base || !ok {
			t.Errorf("the symbol %d: %d, %v, want %d", symbol, b, ok, base)
		}
	}
	if b, n, ok := items.Length(285); b != 258 || n != 0 || !ok {
		t.Errorf("the symbol 285: %d, %d, %v", b, n, ok)
	}
	for _, symbol := range []int{-1 << 63, -1, 0, 255, 256, 286, 287, 1<<63 - 1} {
		if b, n, ok := items.Length(symbol); b != 0 || n != 0 || ok {
			t.Errorf("the symbol %d: %d, %d, %v", symbol, b, n, ok)
		}
	}
}

func TestDistance(t *testing.T) { // chapter 8, 'Distances'
	spans(t, items.Distance, 0, []int{0, 0, 0, 0, 1, 1, 2, 2, 3, 3, 4, 4, 5, 5, 6, 6, 7, 7, 8, 8, 9, 9, 10, 10, 11, 11, 12, 12, 13, 13}, 1)
	for symbol, base := range map[int]int{4: 5, 5: 7, 6: 9, 28: 16385, 29: 24577} {
		if b, _, ok := items.Distance(symbol); b != base || !ok {
			t.Errorf("the symbol %d: %d, %v, want %d", symbol, b, ok, base)
		}
	}
	for _, symbol := range []int{-1 << 63, -1, 30, 31, 1<<63 - 1} {
		if b, n, ok := items.Distance(symbol); b != 0 || n != 0 || ok {
			t.Errorf("the symbol %d: %d, %d, %v", symbol, b, n, ok)
		}
	}
}
