package wrap_test

import (
	"hash/adler32"
	"math/rand"
	"strings"
	"testing"

	"valise/api"
	"valise/wrap"
)

// plainAdler is P23.1 in the chapter's words.
func plainAdler(data string) uint32 {
	a, b := 1, 0
	for i := range len(data) {
		a = (a + int(data[i])) % 65521
		b = (b + a) % 65521
	}
	return uint32(b*65536 + a)
}

// sums asks for an Adler-32.
func sums(t *testing.T, data string, want uint32) {
	t.Helper()
	if sum := wrap.Adler([]byte(data)); sum != want {
		t.Errorf("Adler of %d bytes %.20q = %08X, want %08X", len(data), data, sum, want)
	}
}

// joins asks for the sum of two sums, unjoined for ErrArg.
func joins(t *testing.T, first, second uint32, n int, want uint32) {
	t.Helper()
	if sum, e := wrap.JoinAdler(first, second, n); sum != want || e != api.OK {
		t.Errorf("JoinAdler(%08X, %08X, %d) = %08X, %d, want %08X", first, second, n, sum, e, want)
	}
}

func unjoined(t *testing.T, first, second uint32, n int) {
	t.Helper()
	if sum, e := wrap.JoinAdler(first, second, n); sum != 0 || e != api.ErrArg {
		t.Errorf("JoinAdler(%08X, %08X, %d) = %08X, %d, want ErrArg", first, second, n, sum, e)
	}
}

func TestAdlerBytes(t *testing.T) { // P23.1: each byte, once and twice
	for v := range 256 {
		one := string([]byte{byte(v)})
		sums(t, one, plainAdler(one))
		sums(t, one+one, plainAdler(one+one))
	}
}

func TestAdlerLengths(t *testing.T) { // P23.1: the two numbers stay below 65521, of the greatest bytes too
	for _, v := range []string{"\x00", "\x01", "\x7f", "\xfe", "\xff"} {
		for _, n := range []int{254, 255, 256, 257, 258, 5550, 5551, 5552, 5553, 5554, 11103, 11104, 11105, 16656, 65520, 65521, 65522, 65536, 100000} {
			data := strings.Repeat(v, n)
			sums(t, data, plainAdler(data))
		}
	}
}

// greatest is n bytes whose sum's two numbers are both as great as may be, 65520.
func greatest(n int) string {
	const a = 65519 // the bytes together: a begins as 1
	data := make([]byte, n)
	for i := range data {
		data[i] = byte(a / n)
		if i < a%n {
			data[i]++
		}
	}
	missing := (65520 - int(plainAdler(string(data))/65536) + 65521) % 65521
	for k := 0; missing > 0; k++ { // what is taken from a byte and put to one that stands so many ahead of it comes to b so many times
		from := n - 1 - k%9
		by := min(missing, from)
		data[from]--
		data[from-by]++
		missing -= by
	}
	return string(data)
}

func TestAdlerGreatest(t *testing.T) { // P23.1: the greatest bytes behind the greatest numbers
	for _, n := range []int{1000, 4096, 5550, 5551, 5552, 5553, 5800} {
		first := greatest(n)
		sums(t, first, 65520*65536+65520)
		for more := 5540; more < 5565; more++ {
			data := first + strings.Repeat("\xff", more)
			sums(t, data, plainAdler(data))
		}
	}
}

func TestAdlerDrawn(t *testing.T) { // P23.1: the library says the same
	r := rand.New(rand.NewSource(250))
	for range 300 {
		data := make([]byte, r.Intn(1+r.Intn(40000)))
		r.Read(data)
		sums(t, string(data), plainAdler(string(data)))
		sums(t, string(data), adler32.Checksum(data))
	}
}

func TestAdlerLong(t *testing.T) { // P23.1: of any length
	data := strings.Repeat("\xff\xfe", api.MaxPacked/2+1000)
	sums(t, data, adler32.Checksum([]byte(data)))
}

// plainJoin is P23.2 in the chapter's words.
func plainJoin(first, second uint32, n int) uint32 {
	a1, b1, a2, b2 := int64(first%65536), int64(first/65536), int64(second%65536), int64(second/65536)
	a := (a1 + a2 + 65520) % 65521
	b := (b1 + b2 + int64(n)*(a1+65520)) % 65521
	return uint32(b*65536 + a)
}

func TestJoinAny(t *testing.T) { // P23.2: whatever first and second are
	edges := []uint32{0, 1, 2, 65519, 65520, 65521, 65522, 65535, 65536, 65537, 65521 << 16, 65520<<16 | 65520, 65521<<16 | 65521, 1 << 31, 1<<32 - 65536, 1<<32 - 1}
	counts := []int{0, 1, 2, 65520, 65521, 65522, 1 << 20, api.MaxCapacity - 1, api.MaxCapacity}
	for _, first := range edges {
		for _, second := range edges {
			for _, n := range counts {
				joins(t, first, second, n, plainJoin(first, second, n))
			}
		}
	}
	r := rand.New(rand.NewSource(251))
	for range 10000 {
		first, second, n := r.Uint32(), r.Uint32(), r.Intn(api.MaxCapacity+1)
		joins(t, first, second, n, plainJoin(first, second, n))
	}
}

func TestJoinParts(t *testing.T) { // P23.2: the sum of two texts one behind the other
	r := rand.New(rand.NewSource(252))
	for range 300 {
		data := make([]byte, r.Intn(20000))
		r.Read(data)
		at := r.Intn(len(data) + 1)
		joins(t, wrap.Adler(data[:at]), wrap.Adler(data[at:]), len(data)-at, wrap.Adler(data))
	}
	long := make([]byte, api.MaxCapacity)
	r.Read(long)
	joins(t, wrap.Adler([]byte("ahead")), wrap.Adler(long), len(long), wrap.Adler(append([]byte("ahead"), long...)))
}

func TestJoinRefused(t *testing.T) { // P23.2
	for _, n := range []int{-1, -2, api.MaxCapacity + 1, 1 << 40, 1<<63 - 1, -1 << 63} {
		unjoined(t, 1, 1, n)
		unjoined(t, 0, 0, n)
		unjoined(t, 0xFFFFFFFF, 0x12345678, n)
	}
}
