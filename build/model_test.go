package build_test

import (
	"math"
	"math/big"
	"math/rand"
	"slices"
	"testing"

	"valise/api"
	"valise/code"
)

// node is one of P6.3's row: the leaves that it holds, by their symbols.
type node struct {
	weight, number int
	symbols        []int
}

// joined is Depths by the chapter's words.
func joined(freq []int) []int {
	lens := make([]int, len(freq))
	var row []node
	for symbol, f := range freq {
		if f > 0 {
			row = append(row, node{f, len(row), []int{symbol}})
		}
	}
	if len(row) == 1 {
		lens[row[0].symbols[0]] = 1
	}
	for next := len(row); len(row) > 1; next++ {
		var two [2]node
		for i := range two {
			at := 0
			for j, n := range row {
				if n.weight < row[at].weight || n.weight == row[at].weight && n.number < row[at].number {
					at = j
				}
			}
			two[i] = row[at]
			row = slices.Delete(row, at, at+1)
		}
		held := slices.Concat(two[0].symbols, two[1].symbols)
		for _, symbol := range held {
			lens[symbol]++
		}
		row = append(row, node{two[0].weight + two[1].weight, next, held})
	}
	return lens
}

// heavy is one of P6.4's row: what it weighs, where it came from, and the leaves within it, as often as they are.
type heavy struct {
	weight, packages, turn int
	symbols                []int
}

// packed is Limited by the chapter's words, where the limit is wide enough.
func packed(freq []int, limit int) []int {
	lens := make([]int, len(freq))
	var leaves []heavy
	for symbol, f := range freq {
		if f > 0 {
			leaves = append(leaves, heavy{f, 0, symbol, []int{symbol}})
		}
	}
	if len(leaves) < 2 {
		return joined(freq)
	}
	order := func(a, b heavy) int {
		return slices.Compare([]int{a.weight, a.packages, a.turn}, []int{b.weight, b.packages, b.turn})
	}
	slices.SortFunc(leaves, order)
	row := leaves
	for range limit - 1 {
		next := slices.Clone(leaves)
		for i := 0; i+1 < len(row); i += 2 {
			next = append(next, heavy{row[i].weight + row[i+1].weight, 1, i, slices.Concat(row[i].symbols, row[i+1].symbols)})
		}
		slices.SortFunc(next, order)
		row = next
	}
	for _, h := range row[:2*len(leaves)-2] {
		for _, symbol := range h.symbols {
			lens[symbol]++
		}
	}
	return lens
}

// keepsRules asks for P6.2, P6.6 and P6.9: nothing for the unused, words that are just enough, shorter ones for what is more frequent.
func keepsRules(t *testing.T, freq, lens []int) {
	t.Helper()
	sum, whole, words := new(big.Int), new(big.Int).Lsh(big.NewInt(1), 288), 0
	for symbol, n := range lens {
		if (freq[symbol] > 0) != (n > 0) {
			t.Fatalf("%v: %v: the symbol %d", freq, lens, symbol)
		}
		if n > 0 {
			words++
			sum.Add(sum, new(big.Int).Lsh(big.NewInt(1), uint(288-n)))
		}
	}
	if words >= 2 && sum.Cmp(whole) != 0 || words == 1 && slices.Max(lens) != 1 {
		t.Fatalf("%v: %v breaks Kraft's rule", freq, lens)
	}
	for one, f := range freq {
		for two, g := range freq {
			if f > g && g > 0 && lens[one] > lens[two] {
				t.Fatalf("%v: %v: the symbol %d is more frequent than %d", freq, lens, one, two)
			}
		}
	}
	if words >= 2 && slices.Max(lens) <= api.MaxBits {
		if shape, e := code.Check(lens); shape != api.ShapeComplete || e != api.OK {
			t.Fatalf("%v: Check(%v) = %d, %d", freq, lens, shape, e)
		}
	}
}

// lowFirst asks for the second part of P6.9: of equals the lower symbol has no smaller length.
func lowFirst(t *testing.T, freq, lens []int) {
	t.Helper()
	for one := range freq {
		for two := one + 1; two < len(freq); two++ {
			if freq[one] == freq[two] && lens[one] < lens[two] {
				t.Fatalf("%v: %v: the symbols %d and %d", freq, lens, one, two)
			}
		}
	}
}

// tried is the least cost of all lists of lengths up to the limit that keep Kraft's rule, each of them tried.
func tried(freq []int, limit, room int) int {
	at := slices.IndexFunc(freq, func(f int) bool { return f > 0 })
	if at < 0 {
		return 0
	}
	least := math.MaxInt
	for n := 1; n <= limit; n++ {
		if use := 1 << (15 - n); use <= room {
			if rest := tried(freq[at+1:], limit, room-use); rest < math.MaxInt {
				least = min(least, freq[at]*n+rest)
			}
		}
	}
	return least
}

// deals finds the least cost another way, level by level of a tree: some of the nodes of a level become words, the others have two nodes each on the next one.
type deals struct {
	ahead []int // the sum of the first frequencies, falling
	known map[[3]int]int
}

func (d *deals) least(placed, nodes, levels int) int {
	left := len(d.ahead) - 1 - placed
	if left == 0 {
		return 0
	}
	nodes = min(nodes, left)
	if levels < 0 || left > nodes<<levels {
		return math.MaxInt
	}
	key := [3]int{placed, nodes, levels}
	if cost, ok := d.known[key]; ok {
		return cost
	}
	cost := math.MaxInt
	for words := 0; words <= nodes; words++ {
		rest := d.least(placed+words, 2*(nodes-words), levels-1)
		if rest < math.MaxInt {
			cost = min(cost, rest+d.ahead[len(d.ahead)-1]-d.ahead[placed+words])
		}
	}
	d.known[key] = cost
	return cost
}

// cheapest is the least cost with a limit, for any number of symbols, two or more of them used.
func cheapest(freq []int, limit int) int {
	falling := slices.DeleteFunc(slices.Clone(freq), func(f int) bool { return f == 0 })
	slices.Sort(falling)
	slices.Reverse(falling)
	d := deals{ahead: []int{0}, known: map[[3]int]int{}}
	for _, f := range falling {
		d.ahead = append(d.ahead, d.ahead[len(d.ahead)-1]+f)
	}
	return d.least(0, 2, limit-1) + d.ahead[len(d.ahead)-1]
}

// usedOf is u.
func usedOf(freq []int) int {
	u := 0
	for _, f := range freq {
		u += min(f, 1)
	}
	return u
}

// same asks both calls for what the models answer, and for the rules.
func same(t *testing.T, freq []int, limits ...int) {
	t.Helper()
	lens := depthsOf(t, freq)
	if want := joined(freq); !slices.Equal(lens, want) {
		t.Fatalf("Depths(%v) = %v, want %v", freq, lens, want)
	}
	keepsRules(t, freq, lens)
	for _, limit := range limits {
		if usedOf(freq) > 1<<limit {
			limitedFails(t, freq, limit, api.ErrBuildNarrow)
			continue
		}
		lens := limitedOf(t, freq, limit)
		if want := packed(freq, limit); !slices.Equal(lens, want) {
			t.Fatalf("Limited(%v, %d) = %v, want %v", freq, limit, lens, want)
		}
		if len(lens) > 0 && slices.Max(lens) > limit {
			t.Fatalf("Limited(%v, %d) = %v", freq, limit, lens)
		}
		keepsRules(t, freq, lens)
		lowFirst(t, freq, lens)
	}
}

// eachList goes through all lists of n items out of some.
func eachList(n int, some []int, body func([]int)) {
	if n == 0 {
		body(nil)
		return
	}
	eachList(n-1, some, func(list []int) {
		for _, v := range some {
			body(append(slices.Clone(list), v))
		}
	})
}

func TestAllShortLists(t *testing.T) { // P6.2 to P6.9: no other list of lengths costs less
	for n, some := range [][]int{{}, {0, 1, 2, api.MaxFreq}, {0, 1, 2, 3, api.MaxFreq}, {0, 1, 2, 3, 4, 9}, {0, 1, 2, 3, 5}, {0, 1, 2, 4}, {0, 1, 3}} {
		eachList(n, some, func(freq []int) {
			same(t, freq, 1, 2, 3, 4, 5, 6, 15)
			costs(t, freq, depthsOf(t, freq), tried(freq, max(1, n-1), 1<<15))
			for limit := 1; limit <= 6; limit++ {
				if usedOf(freq) <= 1<<limit {
					costs(t, freq, limitedOf(t, freq, limit), tried(freq, limit, 1<<15))
				}
			}
		})
	}
}

// drawn is a list of frequencies of one of several kinds.
func drawn(r *rand.Rand, n int) []int {
	freq := make([]int, n)
	kind, wide := r.Intn(5), uint(1+r.Intn(32))
	for i := range freq {
		switch kind {
		case 0: // many equal ones
			freq[i] = 1 + r.Intn(3)
		case 1: // all sizes up to a width
			freq[i] = 1 + r.Intn(1<<wide)
		case 2: // few great ones, many small ones
			freq[i] = 1 + r.Intn(1<<uint(1+r.Intn(32)))
		case 3: // powers of 2: packages and leaves of one weight
			freq[i] = 1 << uint(r.Intn(33))
		default: // steps, so that the joining goes deep
			freq[i] = min(int(math.Pow(1.7, float64(r.Intn(42)))), api.MaxFreq)
		}
		if r.Intn(6) == 0 {
			freq[i] = 0
		}
	}
	return freq
}

func TestDrawnLists(t *testing.T) { // P6.3, P6.4, P6.6, P6.9, against the models
	r := rand.New(rand.NewSource(6))
	for range 600 {
		same(t, drawn(r, r.Intn(40)), 1+r.Intn(15), 6, 7, 15)
	}
	for range 30 {
		same(t, drawn(r, 200+r.Intn(89)), 7+r.Intn(3), 15)
	}
}

func TestDrawnListsCostLeast(t *testing.T) { // P6.7, P6.8
	r := rand.New(rand.NewSource(7))
	for range 300 {
		freq := drawn(r, r.Intn(32))
		if usedOf(freq) < 2 {
			continue
		}
		lens := depthsOf(t, freq)
		least := costOf(t, freq, lens)
		costs(t, freq, lens, cheapest(freq, len(freq)))
		for limit := 15; limit >= 1 && usedOf(freq) <= 1<<limit; limit-- {
			cost := costOf(t, freq, limitedOf(t, freq, limit))
			if want := cheapest(freq, limit); cost != want {
				t.Fatalf("Limited(%v, %d) costs %d, want %d", freq, limit, cost, want)
			}
			if cost < least || limit >= slices.Max(lens) && cost != least {
				t.Fatalf("Limited(%v, %d) costs %d, with a higher limit %d", freq, limit, cost, least)
			}
			least = cost
		}
	}
}
