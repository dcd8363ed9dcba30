package header_test

import (
	"strings"
	"testing"

	"valise/api"
	"valise/bits"
	"valise/header"
)

func TestBitByBit(t *testing.T) { // P7.5: the examples 3 and 4, by hand
	three := []string{
		row(0, 5), row(0, 5), row(14, 4),
		row(0, 3), row(0, 3), row(1, 3), row(2, 3), // 16 17 18 0
		row(0, 39),           // 8 7 9 6 10 5 11 4 12 3 13 2 14
		row(2, 3),            // 1
		"0" + row(97-11, 7),  // {18, 97}
		"11",                 // {1, 1}
		"0" + row(138-11, 7), // {18, 138}
		"0" + row(20-11, 7),  // {18, 20}
		"11",                 // {1, 1}
		"10",                 // {0, 1}
	}
	if got, want := writtenOf(t, two(), nil), strings.Join(three, ""); got != want {
		t.Errorf("%s, want %s", got, want)
	}
	four := []string{
		row(0, 5), row(0, 5), row(14, 4),
		row(0, 3), row(0, 3), row(1, 3),
		row(0, 42),
		row(1, 3),
		"1" + row(138-11, 7), "1" + row(118-11, 7), "0", "0",
	}
	if got, want := writtenOf(t, end(), []int{1}), strings.Join(four, ""); got != want {
		t.Errorf("%s, want %s", got, want)
	}
}

func TestCountsAreWritten(t *testing.T) { // P7.5: how many lengths, less 257 and less 1
	for n := 257; n <= 286; n++ {
		for m := 1; m <= 30; m++ {
			lit, dist := append(lits(256, 1), of(n-257, 0)...), append(of(m-1, 0), 1)
			if n > 257 {
				lit[n-1] = 1
			}
			if text := writtenOf(t, lit, dist); text[:10] != row(n-257, 5)+row(m-1, 5) {
				t.Errorf("%d and %d lengths: %s", n, m, text)
			}
		}
	}
}

// upTo is lengths of literals, 8 for most, of which the one that stands last in the order of the small code's lengths is l.
func upTo(l int) []int {
	lens := of(256, 8)
	for n := 9; n <= l; n++ { // longer words: one of 8 bits is split, and the last again and again
		lens = append(lens[:len(lens)-1], n, n)
	}
	if l < 8 { // a shorter word, instead of those that it begins
		lens = append(of(256-1<<(8-l), 8), l)
	}
	return append(of(max(0, 257-len(lens)), 0), lens...)
}

func TestSmallLengthsLeftOut(t *testing.T) { // P7.5: as few as may be: up to the last one in the order that is not 0
	for n, l := range []int{8, 7, 9, 6, 10, 5, 11, 4, 12, 3, 13, 2, 14, 1, 15} {
		n += 5
		text := writtenOf(t, upTo(l), nil)
		if text[10:14] != row(n-4, 4) {
			t.Errorf("up to the length %d: %s, want %d lengths of the small code", l, text, n)
		}
		clens := made(t, upTo(l), nil).Clens
		for i, sym := range []int{16, 17, 18, 0, 8, 7, 9, 6, 10, 5, 11, 4, 12, 3, 13, 2, 14, 1, 15}[:n] {
			if at := 14 + 3*i; text[at:at+3] != row(clens[sym], 3) {
				t.Errorf("up to the length %d: %s, want %d for the symbol %d", l, text, clens[sym], sym)
			}
		}
		reads(t, text, upTo(l), []int{0})
	}
}

func TestBehindWhateverIsThere(t *testing.T) { // P7.5, P7.6
	for _, c := range []struct{ lit, dist []int }{{two(), nil}, {end(), []int{1}}, {wide(), far()}} {
		want := writtenOf(t, c.lit, c.dist)
		for n := range 70 {
			ahead := strings.Repeat("011", 30)[:n]
			w := put(ahead)
			if e := header.Write(w, c.lit, c.dist); e != api.OK || held(w) != ahead+want {
				t.Errorf("Write behind %s = %d, %s, want %s", ahead, e, held(w), want)
			}
			w.Put(1, 1)
			if held(w) != ahead+want+"1" {
				t.Errorf("a bit behind %s and the header: %s", ahead, held(w))
			}
		}
		w := bits.NewWriter()
		header.Write(w, c.lit, c.dist)
		header.Write(w, c.lit, c.dist)
		if held(w) != want+want {
			t.Errorf("twice %s: %s", want, held(w))
		}
	}
}

func TestNoRoom(t *testing.T) { // P7.5: the writer's own error
	size := made(t, two(), nil).Size
	w := bits.NewWriter()
	w.Raw(make([]byte, api.MaxPacked-(size+7)/8-1))
	w.Put(0, 8*api.MaxPacked-w.Len()-size)
	if e := header.Write(w, two(), []int{2}); e != api.ErrHeadDist {
		t.Errorf("Write of what may not be = %d", e)
	}
	if e := header.Write(w, two(), nil); e != api.OK || w.Len() != 8*api.MaxPacked {
		t.Errorf("Write with just the room = %d, %d bits", e, w.Len())
	}
	if e := header.Write(w, two(), nil); e != api.ErrArg {
		t.Errorf("Write without room = %d", e)
	}
	w = bits.NewWriter()
	w.Raw(make([]byte, api.MaxPacked-(size+7)/8-1))
	w.Put(0, 8*api.MaxPacked-w.Len()-size+1)
	if e := header.Write(w, two(), nil); e != api.ErrArg {
		t.Errorf("Write with a bit too few = %d", e)
	}
	if e := header.Write(w, of(286, 8), nil); e != api.ErrHeadLit {
		t.Errorf("Write of what may not be = %d", e)
	}
}
