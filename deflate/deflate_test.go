package deflate_test

import (
	"bytes"
	"math/rand"
	"runtime"
	"slices"
	"strings"
	"sync"
	"testing"

	"valise/api"
	"valise/deflate"
	"valise/inflate"
)

// lits is n literals of one byte.
func lits(n int, b byte) []api.Token { return slices.Repeat([]api.Token{{Lit: b}}, n) }

// copies is n copies of so many bytes from so far back.
func copies(n, length, dist int) []api.Token {
	return slices.Repeat([]api.Token{{Len: length, Dist: dist}}, n)
}

// some is the beginning of a list, to be shown.
func some[T any](list []T) []T { return list[:min(len(list), 40)] }

// splits asks for the blocks that tokens make.
func splits(t *testing.T, tokens []api.Token, want ...int) {
	t.Helper()
	if counts, e := deflate.Split(tokens); !slices.Equal(counts, want) || e != api.OK {
		t.Errorf("Split of %d tokens %v = %v, %d, want %v", len(tokens), some(tokens), some(counts), e, some(want))
	}
}

// bounds asks for the bytes that n bytes take at most.
func bounds(t *testing.T, n, want int) {
	t.Helper()
	if got, e := deflate.Bound(n); got != want || e != api.OK {
		t.Errorf("Bound(%d) = %d, %d, want %d", n, got, e, want)
	}
}

// packed is what Deflate makes of a text.
func packed(t *testing.T, text string, level int) []byte {
	t.Helper()
	got, e := deflate.Deflate([]byte(text), level)
	if e != api.OK {
		t.Fatalf("Deflate of %d bytes, level %d = %d", len(text), level, e)
	}
	return got
}

// deflates asks for the bytes that a text is packed to.
func deflates(t *testing.T, text string, level int, want string) {
	t.Helper()
	if got := packed(t, text, level); string(got) != want {
		t.Errorf("Deflate of %d bytes %q, level %d = %d bytes %x, want %d bytes %x", len(text), some([]byte(text)), level, len(got), some(got), len(want), some([]byte(want)))
	}
}

// noise is n bytes of which none can be foretold.
func noise(seed int64, n int) string {
	data := make([]byte, n)
	rand.New(rand.NewSource(seed)).Read(data)
	return string(data)
}

// texts is one text of each sort: they are packed as blocks of each kind, as one and as many.
func texts() []string {
	return []string{
		"", "a", "ab", "aaaa", "abcabcabd", noise(1, 1), noise(2, 70),
		strings.Repeat("the same words again and again, ", 400),
		strings.Repeat("x", 70000),
		noise(3, 9000), noise(4, 66000),
		strings.Repeat("plain ", 3000) + noise(5, 3000) + strings.Repeat("plain", 3000) + noise(6, 20000),
		changing(20000),
	}
}

// changing is a text of n bytes that is another one, as Split sees it, at each 128 bytes: of 64 values, each of them twice, so that it is worth a code of its own. By turns they come in steps of each odd width, so that three bytes don't come again within 4096, the window of level 1.
func changing(n int) string {
	var data []byte
	for i := 0; len(data) < n; i++ {
		for k := range 128 {
			width := (i/4*2+k/64)%32*2 + 1
			data = append(data, byte(i%4*64+k*width%64))
		}
	}
	return string(data[:n])
}

func TestEffort(t *testing.T) { // P11.1
	for level, want := range []api.Effort{
		{Window: 1}, {Window: 4096, Chain: 4}, {Window: 8192, Chain: 8}, {Window: 16384, Chain: 16}, {Window: 32768, Chain: 16, Lazy: true},
		{Window: 32768, Chain: 32, Lazy: true}, {Window: 32768, Chain: 64, Lazy: true}, {Window: 32768, Chain: 128, Lazy: true}, {Window: 32768, Chain: 512, Lazy: true}, {Window: 32768, Chain: 4096, Lazy: true},
	} {
		if effort, e := deflate.Effort(level); effort != want || e != api.OK {
			t.Errorf("Effort(%d) = %v, %d, want %v", level, effort, e, want)
		}
	}
}

// noLevels is numbers that are no levels.
func noLevels() []int { return []int{-1, 10, 11, 256, -10, 1 << 32, -1 << 63, 1<<63 - 1} }

func TestNoSuchLevel(t *testing.T) { // P11.1, P11.5, P11.6, P0.4
	for _, level := range noLevels() {
		if effort, e := deflate.Effort(level); effort != (api.Effort{}) || e != api.ErrDeflateLevel {
			t.Errorf("Effort(%d) = %v, %d", level, effort, e)
		}
		for _, text := range []string{"", "a", noise(1, 300)} {
			if got, e := deflate.Deflate([]byte(text), level); got != nil || e != api.ErrDeflateLevel {
				t.Errorf("Deflate of %d bytes, level %d = %x, %d", len(text), level, some(got), e)
			}
			if pieces, e := deflate.Pieces([]byte(text), level); pieces != nil || e != api.ErrDeflateLevel {
				t.Errorf("Pieces of %d bytes, level %d = %v, %d", len(text), level, pieces, e)
			}
		}
	}
}

func TestTooLong(t *testing.T) { // P11.2, P11.5, P11.6, P0.5: ErrArg is ahead of ErrDeflateLevel
	long := make([]byte, api.MaxCapacity+1)
	if got, e := deflate.Stored(long); got != nil || e != api.ErrArg {
		t.Errorf("Stored = %d bytes, %d", len(got), e)
	}
	for level := -1; level <= 10; level++ {
		if got, e := deflate.Deflate(long, level); got != nil || e != api.ErrArg {
			t.Errorf("Deflate, level %d = %d bytes, %d", level, len(got), e)
		}
		if pieces, e := deflate.Pieces(long, level); pieces != nil || e != api.ErrArg {
			t.Errorf("Pieces, level %d = %d blocks, %d", level, len(pieces), e)
		}
	}
}

func TestLevelZero(t *testing.T) { // P11.5: stored, also where another kind has fewer bytes
	for _, text := range texts() {
		want, _ := deflate.Stored([]byte(text))
		deflates(t, text, 0, string(want))
	}
}

func TestStoredIfNoLonger(t *testing.T) { // P11.5: where the blocks of the tokens are no shorter
	for n := range 6 {
		text := noise(int64(n), n)
		fixed, _ := deflate.Stored([]byte(text))
		for level := 1; level <= 9; level++ {
			if got := packed(t, text, level); len(got) >= len(fixed) && !bytes.Equal(got, fixed) {
				t.Errorf("Deflate of %x, level %d = %x, and it takes no more as %x", text, level, got, fixed)
			}
		}
	}
	for _, n := range []int{300, 8192, 8193, 65535, 65536, 100000} {
		want, _ := deflate.Stored([]byte(noise(9, n)))
		for _, level := range []int{1, 6, 9} {
			deflates(t, noise(9, n), level, string(want))
		}
	}
}

func TestPieces(t *testing.T) { // P11.6
	for _, text := range texts() {
		for level := range 10 {
			want, e := inflate.Walk(packed(t, text, level), len(text))
			if e != api.OK {
				t.Fatalf("Walk = %d", e)
			}
			if got, e := deflate.Pieces([]byte(text), level); !slices.Equal(got, want) || e != api.OK {
				t.Errorf("Pieces of %d bytes, level %d = %v, %d, want %v", len(text), level, some(got), e, some(want))
			}
		}
	}
}

func TestNilIsEmpty(t *testing.T) { // P0.2
	for _, data := range [][]byte{nil, {}, []byte("abc")[:0]} {
		if got, e := deflate.Stored(data); string(got) != "\x01\x00\x00\xFF\xFF" || e != api.OK {
			t.Errorf("Stored of nothing = %x, %d", got, e)
		}
		for level := range 10 {
			want := api.Piece{Kind: api.KindFixed, Final: true, To: 10}
			if level == 0 {
				want = api.Piece{Kind: api.KindStored, Final: true, To: 40}
			}
			if got, e := deflate.Deflate(data, level); len(got) != (want.To+7)/8 || e != api.OK {
				t.Errorf("Deflate of nothing, level %d = %x, %d", level, got, e)
			}
			if got, e := deflate.Pieces(data, level); !slices.Equal(got, []api.Piece{want}) || e != api.OK {
				t.Errorf("Pieces of nothing, level %d = %v, %d", level, got, e)
			}
		}
	}
	for _, tokens := range [][]api.Token{nil, {}, lits(3, 'a')[:0]} {
		splits(t, tokens, 0)
	}
}

// roomy is a list with room behind its end that is not to be touched, and what it is with that room.
func roomy[T any](list []T, fill T) ([]T, []T) {
	whole := slices.Concat(list, slices.Repeat([]T{fill}, 300))
	return whole[:len(list)], slices.Clone(whole)
}

// spoil writes over a list and over the room behind its end.
func spoil[T any](list []T, v T) {
	list = list[:cap(list)]
	for i := range list {
		list[i] = v
	}
}

func TestArgumentsStay(t *testing.T) { // P0.3: also what lies behind a list's end
	for _, text := range texts() {
		data, all := roomy([]byte(text), 'z')
		deflate.Stored(data)
		for _, level := range []int{-1, 0, 1, 6, 10} {
			deflate.Deflate(data, level)
			deflate.Pieces(data, level)
		}
		if !bytes.Equal(data[:len(all)], all) {
			t.Errorf("%q has changed", some([]byte(text)))
		}
	}
	for _, given := range [][]api.Token{nil, lits(300, 'a'), copies(300, 258, 1), copies(3, 2, 1)} {
		tokens, all := roomy(given, api.Token{Len: 7, Dist: 7})
		deflate.Split(tokens)
		if !slices.Equal(tokens[:len(all)], all) {
			t.Errorf("%v has changed", some(given))
		}
	}
}

func TestAnswersAreNew(t *testing.T) { // P0.3
	for _, text := range texts() {
		for level := range 10 {
			data := []byte(text)
			want := string(packed(t, text, level))
			got, _ := deflate.Deflate(data, level)
			spoil(data, 'z')
			spoil(packed(t, text, level), 99)
			if string(got) != want {
				t.Errorf("Deflate of %d bytes, level %d, has become %x", len(text), level, some(got))
			}
			spoil(got, 99)
			deflates(t, text, level, want)
		}
	}
	tokens := slices.Concat(lits(128, 'a'), lits(300, 200))
	counts, _ := deflate.Split(tokens)
	again, _ := deflate.Split(tokens)
	spoil(tokens, api.Token{Lit: 'a'})
	spoil(again, 99)
	if !slices.Equal(counts, []int{128, 300}) {
		t.Errorf("Split has become %v", counts)
	}
}

func TestSideBySide(t *testing.T) { // P0.7: how goroutines run is not to be seen
	var group sync.WaitGroup
	for _, text := range texts() {
		for _, level := range []int{1, 6, 9} {
			want := string(packed(t, text, level))
			group.Go(func() {
				for range 2 {
					if got, e := deflate.Deflate([]byte(text), level); string(got) != want || e != api.OK {
						t.Errorf("Deflate of %d bytes, level %d = %d bytes, %d, want %d", len(text), level, len(got), e, len(want))
					}
				}
			})
		}
	}
	group.Wait()
}

func TestOneProcessor(t *testing.T) { // P0.7: nor how many run at one time
	text := changing(40000)
	want := string(packed(t, text, 1))
	before := runtime.GOMAXPROCS(1)
	defer runtime.GOMAXPROCS(before)
	for range 3 {
		deflates(t, text, 1, want)
	}
}
