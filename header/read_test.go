package header_test

import (
	"slices"
	"strings"
	"testing"

	"valise/api"
	"valise/bits"
	"valise/header"
)

// small is 19 lengths of the small code, all 0 but for those that are said: symbol, length, symbol, length ..
func small(numbers ...int) []int { return lits(numbers...)[:19] }

// head is the three numbers and n lengths of the small code.
func head(lit, dist int, clens []int, n int) string {
	text := row(lit-257, 5) + row(dist-1, 5) + row(n-4, 4)
	for _, sym := range []int{16, 17, 18, 0, 8, 7, 9, 6, 10, 5, 11, 4, 12, 3, 13, 2, 14, 1, 15}[:n] {
		text += row(clens[sym], 3)
	}
	return text
}

// tail is runs in a small code, whatever they are.
func tail(clens []int, numbers ...int) string {
	words := plainWords(clens)
	var text strings.Builder
	for _, r := range run(numbers...) {
		text.WriteString(words[r.Sym])
		switch r.Sym {
		case 16:
			text.WriteString(row(r.Count-3, 2))
		case 17:
			text.WriteString(row(r.Count-3, 3))
		case 18:
			text.WriteString(row(r.Count-11, 7))
		}
	}
	return text.String()
}

// all is a small code in which most runs have a word: 0, 1, 2, 8, 16, 17 and 18.
func all() []int { return small(0, 2, 1, 3, 2, 3, 8, 3, 16, 3, 17, 3, 18, 3) }

// whole is a header in that small code, all 19 lengths written.
func whole(lit, dist int, numbers ...int) string {
	return head(lit, dist, all(), 19) + tail(all(), numbers...)
}

func TestNumbersCutOff(t *testing.T) { // P7.7, 1: not all 14 bits are there, whatever they would say
	for n := range 14 {
		readFails(t, strings.Repeat("0", n), api.ErrHeadEnd)
		readFails(t, strings.Repeat("1", n), api.ErrHeadEnd)
		readFails(t, strings.Repeat("10", 7)[:n], api.ErrHeadEnd)
	}
}

func TestCountsBeyond(t *testing.T) { // P7.7, 1: told directly behind the 14 bits
	for lit := 257; lit <= 288; lit++ {
		for dist := 1; dist <= 32; dist++ {
			for _, n := range []int{4, 11, 19} {
				text := row(lit-257, 5) + row(dist-1, 5) + row(n-4, 4)
				if lit > 286 || dist > 30 {
					readFails(t, text, api.ErrHeadCounts)
				} else {
					readFails(t, text, api.ErrHeadEnd)
				}
			}
		}
	}
}

func TestSmallLengthsCutOff(t *testing.T) { // P7.7, 2
	for n := 4; n <= 19; n++ {
		text := row(0, 5) + row(0, 5) + row(n-4, 4)
		for cut := range 3 * n {
			readFails(t, text+strings.Repeat("0", cut), api.ErrHeadEnd)
			readFails(t, text+strings.Repeat("1", cut), api.ErrHeadEnd)
		}
		readFails(t, text+strings.Repeat("0", 3*n), api.ErrHeadMeta)
	}
}

func TestSmallCodeNotComplete(t *testing.T) { // P7.7, 2: each other shape, told directly behind the last length
	for _, clens := range [][]int{
		small(), small(0, 1), small(18, 1), small(0, 2), small(0, 1, 18, 2), small(0, 1, 17, 1, 18, 1), of(19, 7), of(19, 1), of(19, 4), with(all(), 15, 7), with(all(), 8, 4),
	} {
		readFails(t, head(257, 1, clens, 19), api.ErrHeadMeta)
		readFails(t, head(286, 30, clens, 19), api.ErrHeadMeta)
	}
	readFails(t, head(257, 1, small(0, 1), 4), api.ErrHeadMeta)
	readFails(t, head(257, 1, small(18, 1, 1, 1), 17), api.ErrHeadMeta) // the symbol 1 is the 18th: what is not written is 0
	readFails(t, head(257, 1, small(18, 1, 1, 1), 18), api.ErrHeadEnd)
	readFails(t, head(257, 1, small(18, 1, 15, 1), 18), api.ErrHeadMeta)
	readFails(t, head(257, 1, small(18, 1, 15, 1), 19), api.ErrHeadEnd)
}

func TestRunsCutOff(t *testing.T) { // P7.7, 3: within a code word and within its further bits
	text := whole(257, 2, 18, 138, 17, 10, 16, 6, 18, 102, 1, 1, 1, 1, 0, 1)
	endsWithin(t, text)
	reads(t, text, lits(256, 1), []int{1, 0})
	text = whole(258, 1, 0, 1, 16, 3, 17, 3, 18, 138, 18, 111, 1, 1, 1, 1, 0, 1)
	endsWithin(t, text)
	reads(t, text, append(lits(256, 1), 1), []int{0})
}

func TestRepeatFirst(t *testing.T) { // P7.7, 3: behind its further bits; whatever follows
	for count := 3; count <= 6; count++ {
		text := whole(257, 1, 16, count)
		readFails(t, text, api.ErrHeadRepeat)
		endsWithin(t, text)
	}
	readFails(t, whole(257, 1, 16, 3, 18, 138, 18, 138), api.ErrHeadRepeat)
}

func TestRunBeyond(t *testing.T) { // P7.7, 3: behind its further bits
	for _, last := range [][]int{{18, 11}, {18, 138}, {17, 3}, {17, 10}, {16, 3}, {16, 6}} {
		text := whole(257, 1, append([]int{18, 138, 18, 118}, last...)...) // two lengths are missing
		readFails(t, text, api.ErrHeadOver)
		endsWithin(t, text)
	}
	readFails(t, whole(257, 1, 18, 138, 18, 121), api.ErrHeadOver) // from the front on: one too many
	readFails(t, whole(257, 1, 18, 138, 18, 120), api.ErrHeadLit)  // just as many
	readFails(t, whole(286, 30, 18, 138, 18, 138, 18, 41), api.ErrHeadOver)
	readFails(t, whole(286, 30, 18, 138, 18, 138, 18, 40), api.ErrHeadLit)
	readFails(t, whole(257, 1, 1, 1, 1, 1, 18, 138, 18, 112, 17, 3, 16, 3), api.ErrHeadLit)
	readFails(t, whole(257, 1, 1, 1, 1, 1, 18, 138, 18, 112, 17, 3, 16, 4), api.ErrHeadOver)
}

func TestLiteralsThatMayNotBe(t *testing.T) { // P7.7, 4: behind the last run
	for _, numbers := range [][]int{
		{18, 138, 18, 118, 0, 1, 1, 1},                   // none at all
		{1, 1, 1, 1, 18, 138, 18, 116, 0, 1, 1, 1},       // complete, but 256 has none
		{1, 1, 18, 138, 18, 117, 0, 1, 1, 1},             // single, but 256 has none
		{18, 138, 18, 118, 2, 1, 1, 1},                   // under: 256 alone, of two bits
		{2, 1, 18, 138, 18, 117, 1, 1, 1, 1},             // under
		{1, 1, 1, 1, 18, 138, 18, 116, 1, 1, 1, 1},       // over
		{8, 1, 1, 1, 1, 1, 18, 138, 18, 115, 1, 1, 1, 1}, // over
		{2, 1, 18, 138, 18, 117, 1, 1, 2, 1},             // the distances may not be either
	} {
		readFails(t, whole(257, 1, numbers...), api.ErrHeadLit)
		endsWithin(t, whole(257, 1, numbers...))
	}
	readFails(t, whole(257, 3, 18, 138, 18, 118, 0, 1, 1, 1, 1, 1, 1, 1), api.ErrHeadLit)
}

func TestDistancesThatMayNotBe(t *testing.T) { // P7.7, 4
	for _, c := range []struct {
		dist int
		runs []int
		e    api.Errno
	}{
		{1, []int{0, 1}, api.OK}, {1, []int{1, 1}, api.OK}, {1, []int{2, 1}, api.ErrHeadDist}, {1, []int{8, 1}, api.ErrHeadDist},
		{2, []int{1, 1, 1, 1}, api.OK}, {2, []int{0, 1, 1, 1}, api.OK}, {2, []int{1, 1, 2, 1}, api.ErrHeadDist}, {2, []int{0, 1, 2, 1}, api.ErrHeadDist},
		{3, []int{1, 1, 1, 1, 1, 1}, api.ErrHeadDist}, {3, []int{2, 1, 1, 1, 2, 1}, api.OK}, {3, []int{17, 3}, api.OK}, {3, []int{1, 1, 1, 1, 8, 1}, api.ErrHeadDist},
		{30, []int{18, 30}, api.OK}, {30, []int{18, 29, 1, 1}, api.OK}, {30, []int{18, 29, 2, 1}, api.ErrHeadDist}, {30, []int{18, 28, 1, 1, 1, 1}, api.OK},
		{4, []int{2, 1, 16, 3}, api.OK}, {5, []int{2, 1, 16, 4}, api.ErrHeadDist},
	} {
		text := whole(257, c.dist, append([]int{18, 138, 18, 118, 1, 1}, c.runs...)...)
		endsWithin(t, text)
		if c.e != api.OK {
			readFails(t, text, c.e)
		} else {
			reads(t, text, lits(256, 1), lengthsOf(t, run(c.runs...)))
		}
	}
}

func TestZerosAtTheEndStay(t *testing.T) { // P7.7: the lists are as they were written
	for n := 257; n <= 286; n++ {
		for m := 1; m <= 30; m++ {
			numbers := []int{18, 138, 18, 118, 1, 1}
			for range n - 257 + m {
				numbers = append(numbers, 0, 1)
			}
			r := over(whole(n, m, numbers...))
			lit, dist, e := header.Read(r)
			if e != api.OK || !slices.Equal(lit, append(lits(256, 1), of(n-257, 0)...)) || !slices.Equal(dist, of(m, 0)) || r.Left() != 0 {
				t.Errorf("%d and %d lengths: %v, %v, %d", n, m, lit, dist, e)
			}
		}
	}
}

func TestWhicheverWayItWasMade(t *testing.T) { // P7.7: others make other runs and other small codes
	want := append(lits(0, 2, 256, 1), 2)
	for _, numbers := range [][]int{
		{2, 1, 18, 138, 18, 117, 1, 1, 2, 1, 0, 1},
		{2, 1, 17, 10, 17, 3, 18, 138, 18, 100, 17, 4, 1, 1, 2, 1, 0, 1},
		{2, 1, 0, 1, 16, 6, 0, 1, 18, 138, 18, 109, 1, 1, 2, 1, 0, 1},
		{2, 1, 18, 138, 16, 6, 16, 6, 18, 105, 1, 1, 2, 1, 0, 1},
	} {
		for n := 18; n <= 19; n++ {
			reads(t, head(258, 1, all(), n)+tail(all(), numbers...), want, []int{0})
		}
		other := small(0, 7, 1, 6, 2, 5, 15, 4, 16, 3, 17, 2, 18, 1, 14, 7)
		reads(t, head(258, 1, other, 19)+tail(other, numbers...), want, []int{0})
	}
	reads(t, head(257, 1, small(18, 1, 1, 1), 19)+tail(small(18, 1, 1, 1), 18, 138, 18, 118, 1, 1, 1, 1), end(), []int{1})
}

func TestRepeatIntoDistances(t *testing.T) { // P7.7: a run may begin in the one list and end in the other
	reads(t, whole(258, 4, 1, 1, 18, 138, 18, 117, 2, 1, 16, 5), append(lits(0, 1, 256, 2), 2), of(4, 2))
}

func TestBackOfWrite(t *testing.T) { // P7.8
	for _, lit := range [][]int{two(), end(), wide(), steep(), append(two(), of(29, 0)...), lits(0, 2, 1, 2, 256, 1), append(lits(256, 1), 1)} {
		for _, dist := range [][]int{nil, {0}, {1}, {1, 1}, {1, 2, 2, 0}, far(), append(of(29, 0), 1)} {
			h, text := made(t, lit, dist), writtenOf(t, lit, dist)
			if len(text) != h.Size {
				t.Errorf("%d bits, want %d", len(text), h.Size)
			}
			reads(t, text, h.Lit, h.Dist)
		}
	}
}

func TestEveryCut(t *testing.T) { // P7.7: a header that is cut off anywhere
	for _, c := range []struct{ lit, dist []int }{{two(), nil}, {end(), []int{1}}, {wide(), far()}, {steep(), far()}} {
		endsWithin(t, writtenOf(t, c.lit, c.dist))
	}
}

func TestHeadersBehindEachOther(t *testing.T) { // P7.7, P7.8: Read goes on from the reader's place
	w := bits.NewWriter()
	w.Put(5, 3)
	header.Write(w, two(), nil)
	header.Write(w, wide(), far())
	w.Put(0, 2)
	header.Write(w, end(), []int{1})
	r := bits.NewReader(w.Bytes())
	r.Skip(3)
	for i, c := range []struct{ lit, dist []int }{{two(), []int{0}}, {wide(), far()}, {end(), []int{1}}} {
		if i == 2 {
			r.Skip(2)
		}
		if lit, dist, e := header.Read(r); e != api.OK || !slices.Equal(lit, c.lit) || !slices.Equal(dist, c.dist) {
			t.Errorf("the header %d: %v, %v, %d", i, lit, dist, e)
		}
	}
	if r.At() != w.Len() {
		t.Errorf("at %d, want %d", r.At(), w.Len())
	}
}
