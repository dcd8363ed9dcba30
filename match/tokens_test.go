package match_test

import (
	"slices"
	"strings"
	"testing"

	"valise/api"
)

func TestNoCopies(t *testing.T) { // P9.2
	for _, text := range []string{"", "a", "aa", "aaa", "ab", "abab", "abcab", "abcdefghij", "\x00\x01\xff"} {
		tells(t, text, full(), text)
		tells(t, text, lazy(), text)
	}
	for _, put := range []bool{false, true} { // with Chain 0
		for _, text := range []string{"aaaaaaaa", letters(1, 500, 2), strings.Repeat("abc", 300)} {
			tells(t, text, api.Effort{Window: api.Window, Lazy: put}, text)
		}
	}
}

func TestLongRuns(t *testing.T) { // P9.2: a run goes on in copies of 258; fewer than three bytes are left as literals
	for n := range 800 {
		text := strings.Repeat("a", n+1)
		parts := row("a", slices.Repeat(row(again(258, 1)), n/258))
		if rest := n % 258; rest >= 3 {
			parts = row(parts, again(rest, 1))
		} else {
			parts = row(parts, strings.Repeat("a", rest))
		}
		tells(t, text, full(), parts)
		tells(t, text, lazy(), parts)
		tells(t, text, api.Effort{Window: 1, Chain: 1, Lazy: n%2 == 0}, parts)
	}
}

func TestOnBehindACopy(t *testing.T) { // P9.2: also the places within a copy are candidates
	tells(t, "abcdeXabcdeYcdeZ", full(), "abcdeX", again(5, 6), "Y", again(3, 4), "Z")
	tells(t, "abcdeXabcdeYcdeX", full(), "abcdeX", again(5, 6), "Y", again(4, 10))
	tells(t, "abcabcabcabcXbca", full(), "abc", again(9, 3), "X", again(3, 6))
	tells(t, "abcd-abcdabcd", full(), "abcd-", again(4, 5), again(4, 4))
}

func TestPutOff(t *testing.T) { // P9.2: only for a longer copy at the next place
	longer := "abcX" + "bcdeY" + "abcde"
	tells(t, longer, full(), "abcXbcdeY", again(3, 9), "de")
	tells(t, longer, lazy(), "abcXbcdeYa", again(4, 6))
	same := "abcX" + "bcdY" + "abcdZ"
	tells(t, same, full(), "abcXbcdY", again(3, 8), "dZ")
	tells(t, same, lazy(), "abcXbcdY", again(3, 8), "dZ")
	chain := "abcX" + "bcdeY" + "cdefgZ" + "defghiU" + "abcdefghi"
	ahead := row("abcXbcdeY", again(3, 4), "fgZ", again(4, 5), "hiU")
	tells(t, chain, full(), ahead, again(3, 22), again(6, 10))
	tells(t, chain, lazy(), ahead, "abc", again(6, 10)) // each byte that is put off is a literal, and the next place is looked at likewise
}

func TestPutOffAtTheEnd(t *testing.T) { // P9.2: the next place is none, or has no copy
	tells(t, "abcXabc", lazy(), "abcX", again(3, 4))
	tells(t, "abcXbcdYabcd", lazy(), "abcXbcdY", again(3, 8), "d")
	tells(t, "abcdXabcd", lazy(), "abcdX", again(4, 5))
}

func TestPutOffForTheByteItself(t *testing.T) { // P9.2: the place that is put off is a candidate of the next one
	tells(t, "aaaXaaaaaaa", full(), "aaaX", again(3, 4), again(4, 1))
	tells(t, "aaaXaaaaaaa", lazy(), "aaaXa", again(6, 1))
}

func TestPutOffOnceOnly(t *testing.T) { // P9.2: a copy that two places on is longer is not waited for
	text := "abcX" + "cdefY" + "abcdef"
	tells(t, text, lazy(), "abcXcdefY", again(3, 9), again(3, 7))
	text = "abcdX" + "cdefghY" + "abcdefgh"
	tells(t, text, lazy(), "abcdX", "cdefghY", again(4, 12), again(4, 9))
}

func TestWindowMovesOn(t *testing.T) { // P9.2: a place leaves the window just when it is too far back
	for _, back := range []int{6, 7, 100, 258, 4096, 32767, 32768, 32769} {
		text := marked(back)
		for _, window := range []int{back - 1, back, back + 1, api.Window} {
			if window > api.Window {
				continue
			}
			tokens := told(t, text, api.Effort{Window: window, Chain: api.MaxChain, Lazy: back%2 == 0})
			last := again(6, back)
			if there := tokens[len(tokens)-1] == last; there != (back <= window) {
				t.Errorf("%d back in a window of %d: the last tokens are %v", back, window, tokens[len(tokens)-2:])
			}
		}
	}
}

func TestWindowMovesFar(t *testing.T) { // P9.2: over and over, the same three bytes come and go
	for _, window := range []int{1, 2, 3, 5, 6, 7, 20} {
		var text strings.Builder
		var want []api.Token
		for i := range 300 {
			part := "abc" + string([]byte{byte(128 + i%100), byte(i % 90), byte(i % 80)})
			text.WriteString(part)
			if window < 6 || i == 0 {
				want = row(want, part)
			} else {
				want = row(want, again(3, 6), part[3:])
			}
		}
		tells(t, text.String(), api.Effort{Window: window, Chain: 1 + window%3}, want)
	}
}

func TestChainOfTokens(t *testing.T) { // P9.2: only the nearest candidates count
	text := "abcdef" + "1abcX" + "2abcY" + "3abcdef"
	for chain, want := range [][]api.Token{
		row(text),
		row("abcdef1", again(3, 7), "X2", again(3, 5), "Y3", again(3, 5), again(3, 17)),
		row("abcdef1", again(3, 7), "X2", again(3, 5), "Y3", again(3, 5), again(3, 17)),
		row("abcdef1", again(3, 7), "X2", again(3, 5), "Y3", again(6, 17)),
		row("abcdef1", again(3, 7), "X2", again(3, 5), "Y3", again(6, 17)),
	} {
		tells(t, text, api.Effort{Window: api.Window, Chain: chain}, want)
	}
}
