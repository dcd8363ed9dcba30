package header_test

import (
	"slices"
	"strings"
	"sync"
	"testing"

	"valise/api"
	"valise/bits"
	"valise/header"
)

// of is n items, each v.
func of(n, v int) []int { return slices.Repeat([]int{v}, n) }

// with is a copy of a list in which one item is another.
func with(list []int, at, v int) []int {
	list = slices.Clone(list)
	list[at] = v
	return list
}

// run makes a list of runs out of the numbers Sym, Count, Sym, Count ..
func run(numbers ...int) []api.Run {
	var runs []api.Run
	for i := 0; i < len(numbers); i += 2 {
		runs = append(runs, api.Run{Sym: numbers[i], Count: numbers[i+1]})
	}
	return runs
}

// lits is 257 lengths of literals, all 0 but for those that are said: symbol, length, symbol, length ..
func lits(numbers ...int) []int {
	lens := of(257, 0)
	for i := 0; i < len(numbers); i += 2 {
		lens[numbers[i]] = numbers[i+1]
	}
	return lens
}

// two is the lengths of the example 3, end those of the example 4.
func two() []int { return lits(97, 1, 256, 1) }
func end() []int { return lits(256, 1) }

// wide is 286 lengths of literals of the shape complete, the last one not 0: 226 words of 8 bits, 60 of 9.
func wide() []int { return slices.Concat(of(226, 8), of(60, 9)) }

// far is 30 lengths of distances of the shape complete.
func far() []int { return slices.Concat(of(2, 4), of(28, 5)) }

// row is a number's n bits, the lowest first, as a text of 0 and 1.
func row(v, n int) string {
	var text strings.Builder
	for i := range n {
		text.WriteByte("01"[v>>i&1])
	}
	return text.String()
}

// put is a writer that holds these bits.
func put(text string) *bits.Writer {
	w := bits.NewWriter()
	for _, bit := range text {
		w.Put(uint32(bit-'0'), 1)
	}
	return w
}

// held is the bits that a writer holds.
func held(w *bits.Writer) string {
	var text strings.Builder
	for _, b := range w.Bytes() {
		text.WriteString(row(int(b), 8))
	}
	return text.String()[:w.Len()]
}

// over is a reader with just these bits left. A reader ends at the border of a byte, so what is too few stands ahead of its place.
func over(text string) *bits.Reader {
	ahead := (8 - len(text)%8) % 8
	r := bits.NewReader(put(strings.Repeat("1", ahead) + text).Bytes())
	r.Skip(ahead)
	return r
}

func runsOf(t *testing.T, lens []int) []api.Run {
	t.Helper()
	runs, e := header.Runs(lens)
	if e != api.OK {
		t.Fatalf("Runs(%v) = %v, %d", lens, runs, e)
	}
	return runs
}

func lengthsOf(t *testing.T, runs []api.Run) []int {
	t.Helper()
	lens, e := header.Expand(runs)
	if e != api.OK {
		t.Fatalf("Expand(%v) = %v, %d", runs, lens, e)
	}
	return lens
}

func made(t *testing.T, lit, dist []int) api.Header {
	t.Helper()
	h, e := header.Make(lit, dist)
	if e != api.OK {
		t.Fatalf("Make(%v, %v) = %v, %d", lit, dist, h, e)
	}
	return h
}

// writtenOf is the bits that Write puts into a new writer.
func writtenOf(t *testing.T, lit, dist []int) string {
	t.Helper()
	w := bits.NewWriter()
	if e := header.Write(w, lit, dist); e != api.OK {
		t.Fatalf("Write(%v, %v) = %d", lit, dist, e)
	}
	return held(w)
}

func runs(t *testing.T, lens []int, want ...int) {
	t.Helper()
	if got := runsOf(t, lens); !slices.Equal(got, run(want...)) {
		t.Errorf("Runs(%v) = %v, want %v", lens, got, run(want...))
	}
}

func runsFails(t *testing.T, lens []int) {
	t.Helper()
	if got, e := header.Runs(lens); got != nil || e != api.ErrArg {
		t.Errorf("Runs(%v) = %v, %d", lens, got, e)
	}
}

func expands(t *testing.T, runs []api.Run, want ...int) {
	t.Helper()
	if got := lengthsOf(t, runs); !slices.Equal(got, want) {
		t.Errorf("Expand(%v) = %v, want %v", runs, got, want)
	}
}

func expandFails(t *testing.T, runs []api.Run, want api.Errno) {
	t.Helper()
	if got, e := header.Expand(runs); got != nil || e != want {
		t.Errorf("Expand(%v) = %v, %d, want %d", runs, got, e, want)
	}
}

// empty tells whether a header is a zero one.
func empty(h api.Header) bool {
	return h.Lit == nil && h.Dist == nil && h.Clens == nil && h.Runs == nil && h.Size == 0
}

// makeFails asks Make and Write alike: what Write was handed is as it was.
func makeFails(t *testing.T, lit, dist []int, want api.Errno) {
	t.Helper()
	if h, e := header.Make(lit, dist); !empty(h) || e != want {
		t.Errorf("Make(%v, %v) = %v, %d, want %d", lit, dist, h, e, want)
	}
	w := put("101")
	if e := header.Write(w, lit, dist); e != want || held(w) != "101" {
		t.Errorf("Write(%v, %v) = %d, want %d; %s", lit, dist, e, want, held(w))
	}
}

// reads asks Read of these bits and of the same with others behind them.
func reads(t *testing.T, text string, lit, dist []int) {
	t.Helper()
	for _, behind := range []string{"", "0", "1", "1111111", strings.Repeat("0", 40), strings.Repeat("1", 40)} {
		r := over(text + behind)
		from := r.At()
		a, b, e := header.Read(r)
		if e != api.OK || !slices.Equal(a, lit) || !slices.Equal(b, dist) || r.At()-from != len(text) {
			t.Errorf("Read(%s and %q) = %v, %v, %d, moved by %d of %d, want %v, %v", text, behind, a, b, e, r.At()-from, len(text), lit, dist)
		}
	}
}

// readFails asks Read of these bits and of the same with others behind them: the error is told where it is met.
func readFails(t *testing.T, text string, want api.Errno) {
	t.Helper()
	for _, behind := range []string{"", "0", "1", strings.Repeat("0", 400), strings.Repeat("1", 400)} {
		if a, b, e := header.Read(over(text + behind)); a != nil || b != nil || e != want {
			t.Errorf("Read(%s and %q) = %v, %v, %d, want %d", text, behind, a, b, e, want)
		}
		if want == api.ErrHeadEnd {
			break // more bits would be something else
		}
	}
}

// endsWithin asks Read of all the beginnings of these bits.
func endsWithin(t *testing.T, text string) {
	t.Helper()
	for n := range len(text) {
		readFails(t, text[:n], api.ErrHeadEnd)
	}
}

func TestNilHandles(t *testing.T) { // P7.5, P7.7, P0.6
	for _, lit := range [][]int{nil, two(), of(287, 0), {16}, of(286, 8)} {
		if e := header.Write(nil, lit, nil); e != api.ErrArg {
			t.Errorf("Write(nil, %v, nil) = %d", lit, e)
		}
	}
	if lit, dist, e := header.Read(nil); lit != nil || dist != nil || e != api.ErrArg {
		t.Errorf("Read(nil) = %v, %v, %d", lit, dist, e)
	}
	if lit, dist, e := header.Read(&bits.Reader{}); lit != nil || dist != nil || e != api.ErrHeadEnd {
		t.Errorf("Read of a bare reader = %v, %v, %d", lit, dist, e)
	}
	w := &bits.Writer{}
	if e := header.Write(w, two(), nil); e != api.OK || held(w) != writtenOf(t, two(), nil) {
		t.Errorf("Write to a bare writer = %d, %s", e, held(w))
	}
}

func TestNilIsEmpty(t *testing.T) { // P0.2
	runs(t, nil)
	runs(t, []int{})
	expands(t, nil)
	expands(t, []api.Run{})
	for _, lit := range [][]int{nil, {}} {
		makeFails(t, lit, nil, api.ErrHeadLit)
		makeFails(t, lit, []int{}, api.ErrHeadLit)
	}
	same(t, made(t, two(), nil), made(t, two(), []int{}))
	if a, b := writtenOf(t, two(), nil), writtenOf(t, two(), []int{}); a != b {
		t.Errorf("%s, %s", a, b)
	}
}

// same holds two headers against each other.
func same(t *testing.T, got, want api.Header) {
	t.Helper()
	if !slices.Equal(got.Lit, want.Lit) || !slices.Equal(got.Dist, want.Dist) || !slices.Equal(got.Clens, want.Clens) || !slices.Equal(got.Runs, want.Runs) || got.Size != want.Size {
		t.Errorf("%v, want %v", got, want)
	}
}

// roomy is a list with room behind its end that is not to be touched, and what it is with that room.
func roomy[T any](list []T, fill T) ([]T, []T) {
	all := slices.Concat(list, slices.Repeat([]T{fill}, 400))
	return all[:len(list)], all
}

func TestArgumentsStay(t *testing.T) { // P0.3: also what lies behind a list's end
	for _, c := range []struct{ lit, dist []int }{
		{two(), nil}, {end(), []int{1}}, {wide(), far()}, {append(two(), of(20, 0)...), of(30, 0)}, {two()[:200], []int{2}}, {of(286, 8), far()},
	} {
		lit, allLit := roomy(c.lit, 77)
		dist, allDist := roomy(c.dist, 77)
		header.Make(lit, dist)
		header.Write(bits.NewWriter(), lit, dist)
		header.Runs(lit)
		header.Runs(allLit)
		if !slices.Equal(allLit, slices.Concat(c.lit, of(400, 77))) || !slices.Equal(allDist, slices.Concat(c.dist, of(400, 77))) {
			t.Errorf("%v, %v have become %v, %v", c.lit, c.dist, allLit, allDist)
		}
	}
	list, all := roomy(run(3, 1, 16, 6, 18, 138, 16, 3), api.Run{Sym: 9, Count: 9})
	before := slices.Clone(all)
	header.Expand(list)
	header.Expand(all)
	if !slices.Equal(all, before) {
		t.Errorf("the runs have become %v", all)
	}
}

// spoil writes over a list and over the room behind its end.
func spoil[T any](list []T, v T) {
	list = list[:cap(list)]
	for i := range list {
		list[i] = v
	}
}

func TestAnswersAreNew(t *testing.T) { // P0.3: none shares memory with an argument, with another answer, or within itself
	for _, c := range []struct{ lit, dist []int }{{two(), nil}, {end(), []int{1}}, {wide(), far()}, {append(two(), 0, 0), []int{1, 2, 2, 0}}} {
		lit, dist := slices.Clone(c.lit), slices.Clone(c.dist)
		want, got := made(t, lit, dist), made(t, lit, dist)
		spoil(lit, 99)
		spoil(dist, 99)
		same(t, got, want)
		spoil(want.Lit, 98)
		same(t, made(t, c.lit, c.dist), got)
		parts := []func(api.Header){
			func(h api.Header) { spoil(h.Lit, 99) }, func(h api.Header) { spoil(h.Dist, 99) },
			func(h api.Header) { spoil(h.Clens, 99) }, func(h api.Header) { spoil(h.Runs, api.Run{Sym: 99}) },
		}
		for i, part := range parts {
			h := made(t, c.lit, c.dist)
			part(h)
			back := made(t, c.lit, c.dist)
			for j, list := range [][2][]int{{h.Lit, back.Lit}, {h.Dist, back.Dist}, {h.Clens, back.Clens}} {
				if i != j && !slices.Equal(list[0], list[1]) {
					t.Errorf("the part %d has changed with the part %d: %v", j, i, list[0])
				}
			}
			if i != 3 && !slices.Equal(h.Runs, back.Runs) {
				t.Errorf("the runs have changed with the part %d", i)
			}
		}
	}
}

func TestListsOfReadAreNew(t *testing.T) { // P0.3
	text := writtenOf(t, wide(), far())
	lit, dist, _ := header.Read(over(text))
	spoil(lit, 99)
	if !slices.Equal(dist, far()) {
		t.Errorf("the distances have changed with the literals: %v", dist)
	}
	lit, dist, _ = header.Read(over(text))
	spoil(dist, 99)
	if !slices.Equal(lit, wide()) {
		t.Errorf("the literals have changed with the distances: %v", lit)
	}
	reads(t, text, wide(), far())
}

func TestListsOfRunsAreNew(t *testing.T) { // P0.3
	lens := []int{7, 7, 7, 7, 0, 0, 0, 1}
	first := runsOf(t, lens)
	spoil(first, api.Run{Sym: 99})
	runs(t, lens, 7, 1, 16, 3, 17, 3, 1, 1)
	list := run(7, 1, 16, 3, 17, 3)
	back := lengthsOf(t, list)
	spoil(back, 99)
	expands(t, list, 7, 7, 7, 7, 0, 0, 0)
	back = lengthsOf(t, list)
	spoil(list, api.Run{Sym: 99})
	if !slices.Equal(back, []int{7, 7, 7, 7, 0, 0, 0}) {
		t.Errorf("the lengths have changed with the runs: %v", back)
	}
}

func TestSideBySide(t *testing.T) { // P0.7: how goroutines run is not to be seen
	wantText, wantHeader := writtenOf(t, wide(), far()), made(t, wide(), far())
	var group sync.WaitGroup
	for range 8 {
		group.Go(func() {
			for range 50 {
				same(t, made(t, wide(), far()), wantHeader)
				if text := writtenOf(t, wide(), far()); text != wantText {
					t.Errorf("%s, want %s", text, wantText)
				}
				if lit, dist, e := header.Read(over(wantText)); e != api.OK || !slices.Equal(lit, wide()) || !slices.Equal(dist, far()) {
					t.Errorf("Read = %v, %v, %d", lit, dist, e)
				}
			}
		})
	}
	group.Wait()
}
