package match_test

import (
	"strings"
	"testing"

	"valise/api"
	"valise/match"
)

func TestBestPlaces(t *testing.T) { // P9.1
	data := []byte("abcabcabc")
	for _, at := range []int{-1 << 63, -9, -1, 9, 10, 1 << 32, 1<<63 - 1} {
		if length, dist, e := match.Best(data, at, full()); length != 0 || dist != 0 || e != api.ErrArg {
			t.Errorf("Best at %d = %d, %d, %d", at, length, dist, e)
		}
	}
	for at, want := range [][2]int{{0, 0}, {0, 0}, {0, 0}, {6, 3}, {5, 3}, {4, 3}, {3, 3}, {0, 0}, {0, 0}} {
		best(t, string(data), at, full(), want[0], want[1])
		best(t, string(data), at, lazy(), want[0], want[1])
	}
	for n := 1; n <= 3; n++ { // fewer than three bytes are never copied
		for at := range n {
			best(t, "aaa"[:n], at, full(), 0, 0)
		}
	}
}

func TestThreeBytes(t *testing.T) { // P9.1: each of the three counts
	best(t, "abc.abc", 4, full(), 3, 4)
	for _, text := range []string{"xbc.abc", "axc.abc", "abx.abc", "ab.aabc", "abc.ab"} {
		best(t, text, len(text)-3, full(), 0, 0)
	}
	best(t, "\x00\x00\x00\xff\x00\x00\x00", 4, full(), 3, 4)
	best(t, "\xff\x80\x00.\xff\x80\x00", 4, full(), 3, 4)
	best(t, "aaaa", 1, full(), 3, 1)
	best(t, "ababa", 2, full(), 3, 2)
}

func TestRuns(t *testing.T) { // P9.1: at most 258, at most what is left, and each byte counts
	for n := 3; n <= 300; n++ {
		best(t, "a"+strings.Repeat("a", n), 1, full(), min(n, 258), 1)
		best(t, "abc"+strings.Repeat("abc", n)[:n], 3, full(), min(n, 258), 3)
		part := anyBytes(int64(n), n)
		best(t, part+"-"+part, n+1, full(), min(n, 258), n+1)
		best(t, part+"-"+part+"+", n+1, full(), min(n, 258), n+1)
		best(t, part+"--"+part+"-+", n+2, full(), min(n+1, 258), n+2)
	}
}

func TestNearestOfEquals(t *testing.T) { // P9.1: a further one is taken only if it is longer
	text := "abcde1abcde2abcd3abcde4abcde"
	best(t, text, 23, full(), 5, 6)
	best(t, "abcdef1abcde2abcdef3abcdef", 20, full(), 6, 7)
	best(t, "abcdefg1abcde2abcdef3abcdefg", 21, full(), 7, 21)
	best(t, strings.Repeat("a", 300)+"b"+strings.Repeat("a", 260), 301, full(), 258, 259)
	best(t, strings.Repeat("a", 300)+"b"+strings.Repeat("a", 260), 302, full(), 258, 1)
	best(t, strings.Repeat("ab", 200), 2, full(), 258, 2)
	best(t, strings.Repeat("ab", 200), 100, full(), 258, 2)
}

// marked is a text whose beginning stands there once more, so far behind, and nothing else does.
func marked(back int) string {
	if back < 6 {
		return strings.Repeat("XYZUV"[:back], 9)
	}
	data := make([]byte, back)
	for i := range data {
		data[i] = byte(i) % 80
	}
	copy(data, "XXXYYZ")
	return string(data) + "XXXYYZ"
}

func TestWindows(t *testing.T) { // P9.1: as far back as the window, and no further
	for _, back := range []int{1, 2, 3, 4, 5, 6, 100, 257, 258, 259, 4095, 4096, 32766, 32767, 32768, 32769, 40000} {
		for _, window := range []int{1, 2, back - 1, back, back + 1, api.Window} {
			if window < 1 || window > api.Window {
				continue
			}
			length, dist, e := match.Best([]byte(marked(back)), back, api.Effort{Window: window, Chain: api.MaxChain})
			if there := back <= window; e != api.OK || there != (length > 0) || there && dist != back {
				t.Errorf("%d back in a window of %d: %d, %d, %d", back, window, length, dist, e)
			}
		}
	}
}

func TestChains(t *testing.T) { // P9.1: only the nearest candidates count
	for _, chain := range []int{0, 1, 2, 3, 100, 4095, 4096} {
		for _, more := range []int{-1, 0, 1} { // so many candidates beyond the chain
			n := chain + more
			if n < 1 {
				continue
			}
			text := "abcdef" + strings.Repeat(".abcX", n-1) + "-abcdef" // the furthest one has the greatest run
			at, effort := len(text)-6, api.Effort{Window: api.Window, Chain: chain}
			switch {
			case chain == 0:
				best(t, text, at, effort, 0, 0)
			case more <= 0:
				best(t, text, at, effort, 6, at)
			default:
				best(t, text, at, effort, 3, 5)
			}
		}
	}
}

func TestChainWithinWindow(t *testing.T) { // P9.1: what is beyond the window isn't counted, nor what has other three bytes
	text := "abcdef.abcde.abcd.abX.abc.abcdef"
	at := len(text) - 6
	for _, c := range []struct{ window, chain, length, dist int }{
		{26, 4, 6, 26}, {26, 3, 5, 19}, {26, 2, 4, 13}, {26, 1, 3, 4}, {25, 4, 5, 19}, {19, 4, 5, 19}, {18, 4, 4, 13}, {13, 2, 4, 13}, {13, 1, 3, 4}, {12, 9, 3, 4}, {4, 9, 3, 4}, {3, 9, 0, 0},
	} {
		best(t, text, at, api.Effort{Window: c.window, Chain: c.chain}, c.length, c.dist)
	}
}
