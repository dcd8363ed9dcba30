package header_test

import (
	"math/rand"
	"slices"
	"strconv"
	"strings"
	"testing"

	"valise/api"
	"valise/header"
)

// plainRuns is Runs by the chapter's words, of lengths that may be.
func plainRuns(lens []int) []api.Run {
	var runs []api.Run
	for at := 0; at < len(lens); {
		v, m := lens[at], 0
		for at+m < len(lens) && lens[at+m] == v {
			m++
		}
		r := api.Run{Sym: v, Count: 1}
		if v == 0 && m >= 11 {
			r = api.Run{Sym: 18, Count: min(m, 138)}
		} else if v == 0 && m >= 3 {
			r = api.Run{Sym: 17, Count: m}
		} else if v != 0 && at > 0 && lens[at-1] == v && m >= 3 {
			r = api.Run{Sym: 16, Count: min(m, 6)}
		}
		runs = append(runs, r)
		at += r.Count
	}
	return runs
}

// plainExpand is Expand by the chapter's words.
func plainExpand(runs []api.Run) ([]int, api.Errno) {
	var lens []int
	for _, r := range runs {
		may := r.Sym >= 0 && r.Sym <= 15 && r.Count == 1 || r.Sym == 16 && r.Count >= 3 && r.Count <= 6 ||
			r.Sym == 17 && r.Count >= 3 && r.Count <= 10 || r.Sym == 18 && r.Count >= 11 && r.Count <= 138
		if !may {
			return nil, api.ErrHeadRun
		}
		if r.Sym == 16 && len(lens) == 0 {
			return nil, api.ErrHeadRepeat
		}
		v := 0
		if r.Sym <= 15 {
			v = r.Sym
		} else if r.Sym == 16 {
			v = lens[len(lens)-1]
		}
		lens = append(lens, of(r.Count, v)...)
	}
	return lens, api.OK
}

// plainSmall is the lengths of the small code that are written.
func plainSmall(clens []int) []int {
	var lens []int
	for _, sym := range []int{16, 17, 18, 0, 8, 7, 9, 6, 10, 5, 11, 4, 12, 3, 13, 2, 14, 1, 15} {
		lens = append(lens, clens[sym])
	}
	for len(lens) > 4 && lens[len(lens)-1] == 0 {
		lens = lens[:len(lens)-1]
	}
	return lens
}

// plainShape is the shape of code lengths by the words of chapter 5.
func plainShape(lens []int) int {
	words, use := 0, 0
	for _, l := range lens {
		if l > 0 {
			words++
			use += 32768 >> l
		}
	}
	switch {
	case words == 0:
		return api.ShapeEmpty
	case words == 1 && use == 16384:
		return api.ShapeSingle
	case use > 32768:
		return api.ShapeOver
	case use == 32768:
		return api.ShapeComplete
	}
	return api.ShapeUnder
}

// plainWords is the words of chapter 5 as texts of 0 and 1: each is the one ahead and 1, moved left.
func plainWords(lens []int) []string {
	words := make([]string, len(lens))
	last, length := -1, 0
	for l := 1; l <= 15; l++ {
		for symbol, n := range lens {
			if n == l {
				last = (last + 1) << (l - length)
				length = l
				word := strconv.FormatInt(int64(last), 2)
				words[symbol] = strings.Repeat("0", l-len(word)) + word
			}
		}
	}
	return words
}

// plainText is a header's bits by the chapter's words.
func plainText(h api.Header) string {
	written := plainSmall(h.Clens)
	return head(len(h.Lit), len(h.Dist), h.Clens, len(written)) + tail(h.Clens, flat(h.Runs)...)
}

// flat is runs as numbers: Sym, Count, Sym, Count ..
func flat(runs []api.Run) []int {
	var numbers []int
	for _, r := range runs {
		numbers = append(numbers, r.Sym, r.Count)
	}
	return numbers
}

// plainMay is what P7.4 and P7.7 say of the two lists.
func plainMay(lit, dist []int) api.Errno {
	s := plainShape(lit)
	if lit[256] == 0 || s != api.ShapeComplete && s != api.ShapeSingle {
		return api.ErrHeadLit
	}
	s = plainShape(dist)
	if s != api.ShapeComplete && s != api.ShapeSingle && s != api.ShapeEmpty {
		return api.ErrHeadDist
	}
	return api.OK
}

// bitText is bits that are taken off from the front.
type bitText string

// take is the next n bits as a number, the lowest first; false if they are not all there.
func (b *bitText) take(n int) (int, bool) {
	if len(*b) < n {
		return 0, false
	}
	v := 0
	for i := range n {
		v |= int((*b)[i]-'0') << i
	}
	*b = (*b)[n:]
	return v, true
}

// word is the symbol of the next word.
func (b *bitText) word(words []string) (int, bool) {
	for symbol, w := range words {
		if w != "" && strings.HasPrefix(string(*b), w) {
			*b = (*b)[len(w):]
			return symbol, true
		}
	}
	return 0, false
}

// plainRead is Read by the chapter's words: the two lists, how many bits the header has, the error.
func plainRead(text string) ([]int, []int, int, api.Errno) {
	b := bitText(text)
	nLit, _ := b.take(5)
	nDist, _ := b.take(5)
	nSmall, _ := b.take(4)
	if len(text) < 14 {
		return nil, nil, 0, api.ErrHeadEnd
	}
	nLit, nDist, nSmall = nLit+257, nDist+1, nSmall+4
	if nLit > 286 || nDist > 30 {
		return nil, nil, 0, api.ErrHeadCounts
	}
	clens := of(19, 0)
	for _, sym := range []int{16, 17, 18, 0, 8, 7, 9, 6, 10, 5, 11, 4, 12, 3, 13, 2, 14, 1, 15}[:nSmall] {
		var ok bool
		if clens[sym], ok = b.take(3); !ok {
			return nil, nil, 0, api.ErrHeadEnd
		}
	}
	if plainShape(clens) != api.ShapeComplete {
		return nil, nil, 0, api.ErrHeadMeta
	}
	lens, e := b.lengths(plainWords(clens), nLit+nDist)
	if e == api.OK {
		e = plainMay(lens[:nLit], lens[nLit:])
	}
	if e != api.OK {
		return nil, nil, 0, e
	}
	return lens[:nLit], lens[nLit:], len(text) - len(b), api.OK
}

// lengths is the third part of plainRead.
func (b *bitText) lengths(words []string, want int) ([]int, api.Errno) {
	var lens []int
	for len(lens) < want {
		sym, ok := b.word(words)
		if !ok {
			return nil, api.ErrHeadEnd
		}
		further, least := map[int]int{16: 2, 17: 3, 18: 7}[sym], 1
		switch sym {
		case 16, 17:
			least = 3
		case 18:
			least = 11
		}
		more, ok := b.take(further)
		if !ok {
			return nil, api.ErrHeadEnd
		}
		if sym == 16 && len(lens) == 0 {
			return nil, api.ErrHeadRepeat
		}
		v := sym
		if sym == 16 {
			v = lens[len(lens)-1]
		} else if sym > 16 {
			v = 0
		}
		lens = append(lens, of(least+more, v)...)
	}
	if len(lens) > want {
		return nil, api.ErrHeadOver
	}
	return lens, api.OK
}

// sameRead holds Read against the model, and tells the error.
func sameRead(t *testing.T, text string) api.Errno {
	t.Helper()
	wantLit, wantDist, moved, want := plainRead(text)
	r := over(text)
	from := r.At()
	lit, dist, e := header.Read(r)
	if e != want || !slices.Equal(lit, wantLit) || !slices.Equal(dist, wantDist) || e == api.OK && r.At()-from != moved {
		t.Errorf("Read(%s) = %v, %v, %d, moved by %d, want %v, %v, %d, %d", text, lit, dist, e, r.At()-from, wantLit, wantDist, want, moved)
	}
	return e
}

// drawnLens draws lengths that often stand several times one behind the other.
func drawnLens(r *rand.Rand, most int) []int {
	var lens []int
	kinds := 1 + r.Intn(16)
	for len(lens) < most && r.Intn(20) > 0 {
		v, n := r.Intn(kinds), 1
		if r.Intn(2) == 0 {
			n += r.Intn(9)
		}
		if r.Intn(3) == 0 {
			v = 0
			n = 1 + r.Intn(1+r.Intn(300))
		}
		lens = append(lens, of(n, v)...)
	}
	return lens
}

// complete draws n lengths of the shape complete, with at least two words: words that are split in two, again and again.
func complete(r *rand.Rand, n, most int) []int {
	words := []int{1, 1}
	for want := 2 + r.Intn(n-1); len(words) < want; {
		at := r.Intn(len(words))
		if words[at] >= most {
			at = slices.Index(words, slices.Min(words))
		}
		words[at]++
		words = append(words, words[at])
	}
	lens := append(words, of(n-len(words), 0)...)
	if r.Intn(2) == 0 {
		r.Shuffle(n, func(i, j int) { lens[i], lens[j] = lens[j], lens[i] })
	} else {
		slices.Sort(lens)
	}
	return lens
}

// drawnLists draws two lists that mostly may be.
func drawnLists(r *rand.Rand) ([]int, []int) {
	lit := complete(r, 257+r.Intn(30), 15)
	if r.Intn(20) > 0 && lit[256] == 0 {
		at := slices.IndexFunc(lit, func(l int) bool { return l > 0 })
		lit[at], lit[256] = 0, lit[at]
	}
	dist := complete(r, 2+r.Intn(29), 15)
	switch r.Intn(10) {
	case 0:
		lit = lits(256, 1+r.Intn(2)*r.Intn(2))
	case 1:
		lit[r.Intn(len(lit))] = r.Intn(16)
	case 2:
		dist = of(r.Intn(31), 0)
	case 3:
		dist = append(of(r.Intn(29), 0), r.Intn(3), 0)
	case 4:
		dist[r.Intn(len(dist))] = r.Intn(16)
	}
	return lit, dist
}

func TestDrawnRuns(t *testing.T) { // P7.1, P7.2, P7.3
	r := rand.New(rand.NewSource(71))
	for range 5000 {
		lens := drawnLens(r, 700)
		list := runsOf(t, lens)
		if !slices.Equal(list, plainRuns(lens)) {
			t.Errorf("Runs(%v) = %v, want %v", lens, list, plainRuns(lens))
		}
		if back := lengthsOf(t, list); !slices.Equal(back, lens) {
			t.Errorf("Expand(%v) = %v, want %v", list, back, lens)
		}
	}
}

func TestDrawnExpand(t *testing.T) { // P7.2
	r := rand.New(rand.NewSource(72))
	seen := map[api.Errno]int{}
	for range 20000 {
		var list []api.Run
		for range r.Intn(12) {
			sym := r.Intn(19)
			if r.Intn(2) == 0 {
				sym = 16 + r.Intn(3)
			}
			count := []int{1, 3 + r.Intn(4), 3 + r.Intn(8), 11 + r.Intn(128)}[max(0, sym-15)]
			if r.Intn(30) == 0 {
				sym, count = sym+r.Intn(3)-1, count+r.Intn(5)-2
			}
			list = append(list, api.Run{Sym: sym, Count: count})
		}
		want, wantE := plainExpand(list)
		got, e := header.Expand(list)
		if e != wantE || !slices.Equal(got, want) {
			t.Errorf("Expand(%v) = %v, %d, want %v, %d", list, got, e, want, wantE)
		}
		seen[e]++
	}
	met(t, seen, api.OK, api.ErrHeadRun, api.ErrHeadRepeat)
}

// met asks that each of the answers has been drawn.
func met(t *testing.T, seen map[api.Errno]int, all ...api.Errno) {
	t.Helper()
	for _, e := range all {
		if seen[e] < 10 {
			t.Errorf("%d was drawn only %d times", e, seen[e])
		}
	}
}

func TestDrawnHeaders(t *testing.T) { // P7.4 to P7.8
	r := rand.New(rand.NewSource(73))
	seen := map[api.Errno]int{}
	for range 3000 {
		lit, dist := drawnLists(r)
		e := plainMay(lit, dist)
		seen[e]++
		if e != api.OK {
			makeFails(t, lit, dist, e)
			continue
		}
		h := ofLists(t, plainTrim(lit, 257), plainTrim(dist, 1))
		same(t, made(t, lit, dist), h)
		text := writtenOf(t, lit, dist)
		if text != plainText(h) || len(text) != h.Size {
			t.Errorf("Write(%v, %v) puts %s, want %s", lit, dist, text, plainText(h))
		}
		behind := row(r.Intn(1<<20), r.Intn(21))
		if sameRead(t, text+behind) != api.OK {
			t.Errorf("%s does not come back", text)
		}
		if cut := text[:r.Intn(len(text))]; sameRead(t, cut) != api.ErrHeadEnd {
			t.Errorf("%s is not cut off", cut)
		}
	}
	met(t, seen, api.OK, api.ErrHeadLit, api.ErrHeadDist)
}

// plainTrim is a list without the zeros at its end, of at least so many lengths.
func plainTrim(lens []int, floor int) []int {
	for len(lens) > floor && lens[len(lens)-1] == 0 {
		lens = lens[:len(lens)-1]
	}
	return append(slices.Clone(lens), of(max(0, floor-len(lens)), 0)...)
}

// drawnSplit draws runs of a list, other than those of P7.1.
func drawnSplit(r *rand.Rand, lens []int) []int {
	var numbers []int
	for at := 0; at < len(lens); {
		v, m := lens[at], 0
		for at+m < len(lens) && lens[at+m] == v && m < 138 {
			m++
		}
		sym, count := v, 1
		switch {
		case v == 0 && m >= 11 && r.Intn(3) > 0:
			sym, count = 18, 11+r.Intn(m-10)
		case v == 0 && m >= 3 && r.Intn(3) > 0:
			sym, count = 17, 3+r.Intn(min(m, 10)-2)
		case at > 0 && lens[at-1] == v && m >= 3 && r.Intn(3) > 0:
			sym, count = 16, 3+r.Intn(min(m, 6)-2)
		}
		numbers = append(numbers, sym, count)
		at += count
	}
	return numbers
}

// drawnText draws a header that was made in some other way: other runs, another small code, zeros at the end.
func drawnText(r *rand.Rand) string {
	lit, dist := drawnLists(r)
	if len(dist) == 0 {
		dist = []int{0}
	}
	numbers := drawnSplit(r, slices.Concat(lit, dist))
	if r.Intn(20) == 0 {
		numbers = append([]int{16, 3 + r.Intn(4)}, numbers...)
	}
	if r.Intn(20) == 0 {
		numbers = append(numbers[:len(numbers)-2], 18, 11+r.Intn(128))
	}
	clens := of(19, 0)
	for slices.ContainsFunc(run(numbers...), func(r api.Run) bool { return clens[r.Sym] == 0 }) {
		clens = complete(r, 19, 7)
	}
	n := len(plainSmall(clens))
	return head(len(lit), len(dist), clens, n+r.Intn(20-n)) + tail(clens, numbers...)
}

func TestDrawnTexts(t *testing.T) { // P7.7
	r := rand.New(rand.NewSource(74))
	seen := map[api.Errno]int{}
	for range 6000 {
		text := []byte(drawnText(r))
		for range r.Intn(3) * r.Intn(2) {
			at := r.Intn(1 + r.Intn(len(text)))
			text[at] ^= 1
		}
		if r.Intn(10) == 0 {
			text = text[:r.Intn(len(text))]
		}
		seen[sameRead(t, string(text))]++
	}
	met(t, seen, api.OK, api.ErrHeadEnd, api.ErrHeadCounts, api.ErrHeadMeta, api.ErrHeadRepeat, api.ErrHeadOver, api.ErrHeadLit, api.ErrHeadDist)
}

func TestAnyBits(t *testing.T) { // P7.7, P0.1
	r := rand.New(rand.NewSource(75))
	for range 20000 {
		text := make([]byte, r.Intn(300))
		for i := range text {
			text[i] = '0' + byte(r.Intn(1+r.Intn(2)))
		}
		sameRead(t, string(text))
	}
}
