package header_test

import (
	"math"
	"slices"
	"testing"

	"valise/api"
	"valise/header"
)

func TestZeros(t *testing.T) { // P7.1: so many zeros alone
	runs(t, of(1, 0), 0, 1)
	runs(t, of(2, 0), 0, 1, 0, 1)
	for n := 3; n <= 10; n++ {
		runs(t, of(n, 0), 17, n)
	}
	for n := 11; n <= 138; n++ {
		runs(t, of(n, 0), 18, n)
	}
	runs(t, of(139, 0), 18, 138, 0, 1)
	runs(t, of(140, 0), 18, 138, 0, 1, 0, 1)
	runs(t, of(141, 0), 18, 138, 17, 3)
	runs(t, of(148, 0), 18, 138, 17, 10)
	runs(t, of(149, 0), 18, 138, 18, 11)
	runs(t, of(276, 0), 18, 138, 18, 138)
	runs(t, of(277, 0), 18, 138, 18, 138, 0, 1)
}

func TestEqualLengths(t *testing.T) { // P7.1: so many of one length alone
	for v := 1; v <= 15; v++ {
		runs(t, of(1, v), v, 1)
		runs(t, of(2, v), v, 1, v, 1)
		runs(t, of(3, v), v, 1, v, 1, v, 1)
		for n := 4; n <= 7; n++ {
			runs(t, of(n, v), v, 1, 16, n-1)
		}
		runs(t, of(8, v), v, 1, 16, 6, v, 1)
		runs(t, of(9, v), v, 1, 16, 6, v, 1, v, 1)
		runs(t, of(10, v), v, 1, 16, 6, 16, 3)
		runs(t, of(11, v), v, 1, 16, 6, 16, 4)
		runs(t, of(13, v), v, 1, 16, 6, 16, 6)
		runs(t, of(14, v), v, 1, 16, 6, 16, 6, v, 1)
	}
	want := []int{9, 1}
	for range 22 {
		want = append(want, 16, 6)
	}
	runs(t, of(138, 9), append(want, 16, 5)...)
	runs(t, of(139, 9), append(want, 16, 6)...)
}

func TestRunsBesideOthers(t *testing.T) { // P7.1: only equal lengths, one behind the other, make a run
	runs(t, []int{1, 1, 1, 2, 1, 1, 1}, 1, 1, 1, 1, 1, 1, 2, 1, 1, 1, 1, 1, 1, 1)
	runs(t, []int{1, 2, 2, 2, 2, 1}, 1, 1, 2, 1, 16, 3, 1, 1)
	runs(t, []int{0, 3, 3, 3, 3}, 0, 1, 3, 1, 16, 3)
	runs(t, []int{3, 0, 0, 0}, 3, 1, 17, 3)
	runs(t, []int{3, 3, 3, 3, 0, 0, 0, 3, 3, 3, 3}, 3, 1, 16, 3, 17, 3, 3, 1, 16, 3)
	runs(t, []int{0, 0, 15, 0, 0}, 0, 1, 0, 1, 15, 1, 0, 1, 0, 1)
	runs(t, []int{5, 5, 5, 5, 6, 6, 6, 6}, 5, 1, 16, 3, 6, 1, 16, 3)
}

func TestZerosAreNoRepeat(t *testing.T) { // P7.1: zeros behind zeros have runs of their own
	for n := range 600 {
		for _, r := range runsOf(t, of(n, 0)) {
			if r.Sym == 16 {
				t.Errorf("%d zeros: %v", n, r)
			}
		}
	}
}

func TestNoLengths(t *testing.T) { // P7.1, P7.2
	if got, e := header.Runs(nil); len(got) != 0 || e != api.OK {
		t.Errorf("Runs() = %v, %d", got, e)
	}
	if got, e := header.Expand(nil); len(got) != 0 || e != api.OK {
		t.Errorf("Expand() = %v, %d", got, e)
	}
}

func TestLengthsOutside(t *testing.T) { // P7.1: at each place
	for _, v := range []int{-1, 16, 17, 18, 19, 256, math.MinInt, math.MaxInt} {
		for _, lens := range [][]int{{1}, of(4, 7), of(20, 0), {1, 2, 3}, of(300, 5)} {
			for _, at := range []int{0, len(lens) / 2, len(lens) - 1} {
				runsFails(t, with(lens, at, v))
			}
		}
		runsFails(t, of(5, v))
	}
	for v := range 16 {
		runs(t, []int{v}, v, 1)
	}
}

func TestManyLengths(t *testing.T) { // P7.1: any number
	lens := slices.Concat(of(1_000_000, 0), of(1_000_000, 4), []int{1})
	list := runsOf(t, lens)
	zeros, fours := 1_000_000/138, 999_999/6
	if want := zeros + 1 + 1 + fours + 1 + 1; len(list) != want { // the zeros left over are 52, the fours 3
		t.Errorf("%d runs, want %d", len(list), want)
	}
	if !slices.Equal(lengthsOf(t, list), lens) {
		t.Error("the lengths do not come back")
	}
	runsFails(t, append(lens, 16))
}

func TestEveryRun(t *testing.T) { // P7.2: each Sym with each Count, behind a length
	for sym := -3; sym < 25; sym++ {
		for count := -3; count < 300; count++ {
			list := append(run(9, 1), api.Run{Sym: sym, Count: count})
			switch {
			case sym >= 0 && sym <= 15 && count == 1:
				expands(t, list, 9, sym)
			case sym == 16 && count >= 3 && count <= 6:
				expands(t, list, of(1+count, 9)...)
			case sym == 17 && count >= 3 && count <= 10, sym == 18 && count >= 11 && count <= 138:
				expands(t, list, append([]int{9}, of(count, 0)...)...)
			default:
				expandFails(t, list, api.ErrHeadRun)
			}
		}
	}
	for _, v := range []int{math.MinInt, math.MaxInt, math.MinInt32, 1 << 32, 1<<32 + 1, -16} {
		expandFails(t, run(v, 1), api.ErrHeadRun)
		for sym := range 19 {
			expandFails(t, run(4, 1, sym, v), api.ErrHeadRun)
		}
	}
}

func TestRepeatWithNothingAhead(t *testing.T) { // P7.2
	for count := 3; count <= 6; count++ {
		expandFails(t, run(16, count), api.ErrHeadRepeat)
		expandFails(t, run(16, count, 5, 1), api.ErrHeadRepeat)
	}
	for _, count := range []int{-1, 0, 1, 2, 7, 138} {
		expandFails(t, run(16, count), api.ErrHeadRun)
	}
}

func TestRepeatFollows(t *testing.T) { // P7.2: zeros, and what a repeat has made
	expands(t, run(0, 1, 16, 6), of(7, 0)...)
	expands(t, run(17, 10, 16, 3), of(13, 0)...)
	expands(t, run(18, 138, 16, 3), of(141, 0)...)
	expands(t, run(18, 11, 16, 6, 16, 6), of(23, 0)...)
	expands(t, run(7, 1, 16, 3, 16, 3), of(7, 7)...)
	expands(t, run(7, 1, 0, 1, 16, 3), 7, 0, 0, 0, 0)
	expands(t, run(7, 1, 2, 1, 16, 3), 7, 2, 2, 2, 2)
}

func TestFirstErrorOfRuns(t *testing.T) { // P7.2
	expandFails(t, run(16, 3, 19, 1), api.ErrHeadRepeat)
	expandFails(t, run(16, 3, 16, 2), api.ErrHeadRepeat)
	expandFails(t, run(16, 2, 16, 3), api.ErrHeadRun)
	expandFails(t, run(19, 1, 16, 3), api.ErrHeadRun)
	expandFails(t, run(16, 2), api.ErrHeadRun)
	expandFails(t, run(1, 1, 2, 1, 17, 11), api.ErrHeadRun)
	expandFails(t, run(1, 1, 2, 1, 17, 11, 3, 1), api.ErrHeadRun)
	expandFails(t, run(18, 138, 3, 2), api.ErrHeadRun)
}

func TestRunsThatRunsWouldNotMake(t *testing.T) { // P7.2: there are others than those of P7.1
	expands(t, run(0, 1, 0, 1, 0, 1, 0, 1), of(4, 0)...)
	expands(t, run(17, 3, 17, 3), of(6, 0)...)
	expands(t, run(5, 1, 5, 1, 5, 1, 5, 1), of(4, 5)...)
	expands(t, run(5, 1, 16, 3, 16, 3), of(7, 5)...)
}

func TestBackOfRuns(t *testing.T) { // P7.3: all short lists of few lengths
	var all func(lens []int, left int)
	all = func(lens []int, left int) {
		if got := lengthsOf(t, runsOf(t, lens)); !slices.Equal(got, lens) {
			t.Errorf("%v comes back as %v", lens, got)
		}
		if left > 0 {
			for _, v := range []int{0, 1, 15} {
				all(append(slices.Clone(lens), v), left-1)
			}
		}
	}
	all(nil, 9)
	for n := range 300 {
		for _, v := range []int{0, 1, 8} {
			for _, lens := range [][]int{of(n, v), append(of(n, v), 3), append([]int{v, 4}, of(n, v)...), append(of(n, v), of(n, 1-v&1)...)} {
				if got := lengthsOf(t, runsOf(t, lens)); !slices.Equal(got, lens) {
					t.Errorf("%v comes back as %v", lens, got)
				}
			}
		}
	}
}
