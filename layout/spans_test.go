package layout_test

import (
	"math"
	"strings"
	"testing"

	"valise/api"
	"valise/layout"
)

func span(from, to int) api.Span { return api.Span{From: from, To: to} }

func TestExtents(t *testing.T) { // P13.6
	extents(t, spanned(0))
	extents(t, spanned(99, 3, 4), span(3, 4))
	extents(t, spanned(0, 9, 1, 3, 4, 9, 2, 3, 3), span(3, 4), span(3, 3), span(9, 1), span(9, 2))
	extents(t, spanned(-7, 5, 9, 5, 1, 5, 5, 5, 2), span(5, 9), span(5, 1), span(5, 5), span(5, 2)) // of one From, in the entries' order
	extents(t, spanned(0, math.MaxInt, math.MinInt, math.MinInt, math.MaxInt, 0, 0, -1, 5), span(math.MinInt, math.MaxInt), span(-1, 5), span(0, 0), span(math.MaxInt, math.MinInt))
	a := spanned(0, 7, 8)
	a.Entries[0].At, a.Entries[0].Data, a.Entries[0].Packed = 1, 2, 3 // nothing else is asked
	extents(t, a, span(7, 8))
}

func TestGaps(t *testing.T) { // P13.7
	gaps(t, spanned(0))
	gaps(t, spanned(1), span(0, 1))
	gaps(t, spanned(math.MinInt))
	gaps(t, spanned(math.MaxInt), span(0, math.MaxInt))
	gaps(t, spanned(9, 0, 5, 5, 9))
	gaps(t, spanned(9, 5, 9, 0, 5))
	gaps(t, spanned(9, 0, 4, 5, 9), span(4, 5))
	gaps(t, spanned(9, 1, 9), span(0, 1))
	gaps(t, spanned(9, 0, 8), span(8, 9))
	gaps(t, spanned(9, 20, 30), span(0, 9))
	gaps(t, spanned(9, 9, 30), span(0, 9))
	gaps(t, spanned(9, 8, 30), span(0, 8))
	gaps(t, spanned(9, -5, 0), span(0, 9))
	gaps(t, spanned(9, -5, 1), span(1, 9))
	gaps(t, spanned(9, -5, -2), span(0, 9))
	gaps(t, spanned(0, -5, 5))
	gaps(t, spanned(10, 5, 5), span(0, 10)) // one that holds no place doesn't part a gap
	gaps(t, spanned(10, 5, 4, 6, 1, 7, math.MinInt), span(0, 10))
	gaps(t, spanned(20, 1, 12, 3, 5, 14, 16, 2, 10), span(0, 1), span(12, 14), span(16, 20)) // one within another one
	gaps(t, spanned(20, 1, 5, 3, 8, 7, 9), span(0, 1), span(9, 20))
	gaps(t, spanned(10, 2, 4, 2, 3, 2, 6, 2, 2), span(0, 2), span(6, 10))
	gaps(t, spanned(math.MaxInt, math.MinInt, math.MaxInt))
	gaps(t, spanned(math.MaxInt, math.MinInt, 7, math.MaxInt-1, math.MaxInt), span(7, math.MaxInt-1))
	gaps(t, spanned(math.MaxInt, math.MaxInt, math.MinInt, 3, math.MaxInt), span(0, 3))
	a := spanned(9, 2, 4)
	a.Size, a.Entries[0].At, a.Entries[0].Data = 5, 7, 8 // nothing else is asked
	gaps(t, a, span(0, 2), span(4, 9))
}

func tights(t *testing.T, want int, comment string, entries ...api.Entry) {
	t.Helper()
	if n := layout.Tight(entries, comment); n != want {
		t.Errorf("Tight(%.200v, %.20q) = %d, want %d", entries, comment, n, want)
	}
}

func TestTight(t *testing.T) { // P13.8
	tights(t, 22, "")
	tights(t, 25, "abc")
	tights(t, 22+70000, strings.Repeat("c", 70000))
	tights(t, 68, "", api.Entry{})
	full := api.Entry{From: 5, To: 105, Data: 9, LocalExtra: "not counted, for it is in the extent"}
	full.Name, full.Extra, full.Comment, full.Packed = "name", "extra", "of it", 1000
	tights(t, 22+46+4+5+5+100, "", full)
	tights(t, 23+2*(46+4+5+5+100)+46, "x", full, api.Entry{From: 3, To: 3}, full)
	for _, c := range []struct{ from, to, n int }{
		{0, 1, 1}, {1, 0, 0}, {0, 1 << 24, 1 << 24}, {0, 1<<24 + 1, 0}, {-5, 5, 10}, {-1 << 24, 0, 1 << 24}, {-1 << 24, 1, 0}, {7, 7, 0}, {8, 7, 0},
		{math.MinInt, math.MaxInt, 0}, {math.MaxInt, math.MinInt, 0}, {math.MinInt, math.MinInt + 9, 9}, {math.MaxInt - 9, math.MaxInt, 9},
		{math.MaxInt - 4, math.MinInt + 4, 0}, {math.MinInt, 0, 0}, {0, math.MinInt, 0}, {-1, math.MaxInt, 0}, {1, math.MinInt, 0}, {math.MaxInt, -2, 0},
	} {
		tights(t, 22+46+c.n, "", api.Entry{From: c.from, To: c.to})
	}
}
