package field_test

import (
	"bytes"
	"hash/crc32"
	"math"
	"math/rand"
	"slices"
	"testing"

	"valise/api"
	"valise/field"
)

// moved is the chapter's register behind so many single moves.
func moved(reg uint32, moves int) uint32 {
	for range moves {
		out := reg & 1
		reg >>= 1
		if out == 1 {
			reg ^= 0xEDB88320
		}
	}
	return reg
}

// plain goes through data by the chapter's words.
func plain(sum uint32, data []byte) uint32 {
	reg := ^sum
	for _, b := range data {
		reg = moved(reg^uint32(b), 8)
	}
	return ^reg
}

// draws are lists of bytes of many lengths, by a fixed seed.
func draws(seed int64) [][]byte {
	r := rand.New(rand.NewSource(seed))
	var out [][]byte
	for _, n := range []int{0, 1, 2, 3, 4, 5, 7, 8, 9, 15, 16, 17, 31, 32, 33, 63, 100, 255, 256, 257, 1000, 4097} {
		data := make([]byte, n)
		r.Read(data)
		out = append(out, data)
	}
	return append(out, make([]byte, 300), bytes.Repeat([]byte{255}, 300))
}

func TestSum(t *testing.T) { // P2.11
	if field.Sum(nil) != 0 || field.Sum([]byte{}) != 0 {
		t.Error("Sum of nothing")
	}
	for b := range 256 {
		data := []byte{byte(b)}
		if got, want := field.Sum(data), plain(0, data); got != want {
			t.Errorf("Sum of the byte %02x: %08x, want %08x", b, got, want)
		}
	}
	for _, data := range draws(1) {
		before := slices.Clone(data)
		if got, want := field.Sum(data), plain(0, data); got != want || want != crc32.ChecksumIEEE(data) {
			t.Errorf("Sum of %d bytes: %08x, want %08x", len(data), got, want)
		}
		if !bytes.Equal(data, before) {
			t.Error("Sum changed its list")
		}
	}
	long := bytes.Repeat([]byte("no bound of its own"), api.MaxPacked/19+1)
	if got, want := field.Sum(long), crc32.ChecksumIEEE(long); got != want {
		t.Errorf("Sum of %d bytes: %08x, want %08x", len(long), got, want)
	}
}

func TestUpdate(t *testing.T) { // P2.12
	r := rand.New(rand.NewSource(2))
	for _, data := range draws(2) {
		for _, sum := range []uint32{0, 1, 77, 1 << 31, math.MaxUint32, r.Uint32(), r.Uint32()} {
			if got, want := field.Update(sum, data), plain(sum, data); got != want {
				t.Errorf("Update(%08x, %d bytes) = %08x, want %08x", sum, len(data), got, want)
			}
		}
		if got, want := field.Update(0, data), field.Sum(data); got != want {
			t.Errorf("Update(0, %d bytes) = %08x, Sum %08x", len(data), got, want)
		}
		cut := r.Intn(len(data) + 1)
		if got, want := field.Update(field.Sum(data[:cut]), data[cut:]), field.Sum(data); got != want {
			t.Errorf("Update at %d of %d bytes = %08x, want %08x", cut, len(data), got, want)
		}
	}
	for range 100 {
		sum := r.Uint32()
		if field.Update(sum, nil) != sum || field.Update(sum, []byte{}) != sum {
			t.Errorf("Update(%08x, nothing)", sum)
		}
	}
}

// joins is Join where it must go well.
func joins(t *testing.T, first, second uint32, n int) uint32 {
	t.Helper()
	sum, e := field.Join(first, second, n)
	if e != api.OK {
		t.Errorf("Join(%08x, %08x, %d): error %d", first, second, n, e)
	}
	return sum
}

func TestJoin(t *testing.T) { // P2.13: the sum of a whole
	r := rand.New(rand.NewSource(3))
	for _, x := range draws(3) {
		for _, y := range draws(4) {
			want := field.Sum(slices.Concat(x, y))
			if got := joins(t, field.Sum(x), field.Sum(y), len(y)); got != want {
				t.Errorf("Join of %d and %d bytes = %08x, want %08x", len(x), len(y), got, want)
			}
		}
	}
	y := make([]byte, api.MaxCapacity)
	r.Read(y)
	for _, n := range []int{1 << 20, 1<<23 - 1, api.MaxCapacity - 1, api.MaxCapacity} {
		want := field.Update(field.Sum([]byte("ahead")), y[:n])
		if got := joins(t, field.Sum([]byte("ahead")), field.Sum(y[:n]), n); got != want {
			t.Errorf("Join with %d bytes = %08x, want %08x", n, got, want)
		}
	}
}

func TestJoinAny(t *testing.T) { // P2.13: every first and second, by single moves
	r := rand.New(rand.NewSource(5))
	check := func(first, second uint32, n int) {
		t.Helper()
		if got, want := joins(t, first, second, n), moved(first, 8*n)^second; got != want {
			t.Errorf("Join(%08x, %08x, %d) = %08x, want %08x", first, second, n, got, want)
		}
	}
	for bit := range 32 {
		check(1<<bit, 0, 1)
		check(1<<bit, 1<<(31-bit), 777)
	}
	for n := range 200 {
		check(r.Uint32(), r.Uint32(), n)
		check(r.Uint32(), 0, r.Intn(5000))
		check(0, r.Uint32(), n)
	}
	check(math.MaxUint32, 12345, api.MaxCapacity)
	check(0xDEADBEEF, 1, api.MaxCapacity-1)
}

func TestJoinNone(t *testing.T) { // P2.13: n = 0, and n that may not be
	for _, x := range [][2]uint32{{0, 0}, {1, 2}, {5, 5}, {math.MaxUint32, 1}} {
		if got := joins(t, x[0], x[1], 0); got != x[0]^x[1] {
			t.Errorf("Join(%d, %d, 0) = %d", x[0], x[1], got)
		}
		for _, n := range []int{math.MinInt, -8, -1, api.MaxCapacity + 1, api.MaxPacked, 1 << 40, math.MaxInt} {
			if got, e := field.Join(x[0], x[1], n); got != 0 || e != api.ErrArg {
				t.Errorf("Join(%d, %d, %d) = %d, error %d", x[0], x[1], n, got, e)
			}
		}
	}
}

func TestGather(t *testing.T) { // P2.14
	for _, data := range draws(6) {
		before := slices.Clone(data)
		n := len(data)
		for _, chunk := range []int{math.MinInt, -1, 0, 1, 2, 3, 4, 5, 16, 100, n/1024 + 1, n - 1, n, n + 1, math.MaxInt - 1, math.MaxInt} {
			want, e := field.Sum(data), api.OK
			if chunk < 1 || n > 1024*min(chunk, n) {
				want, e = 0, api.ErrArg
			}
			if got, ge := field.Gather(data, chunk); got != want || ge != e {
				t.Errorf("Gather(%d bytes, %d) = %08x, error %d, want %08x, %d", n, chunk, got, ge, want, e)
			}
		}
		if !bytes.Equal(data, before) {
			t.Error("Gather changed its list")
		}
	}
}

func TestGatherEdges(t *testing.T) { // P2.14: 1024 chunks and one more, MaxCapacity bytes and one more
	data := make([]byte, api.MaxCapacity+1)
	rand.New(rand.NewSource(7)).Read(data)
	for _, x := range []struct {
		n, chunk int
		e        api.Errno
	}{
		{1023, 1, api.OK}, {1024, 1, api.OK}, {1025, 1, api.ErrArg},
		{1024*7 - 1, 7, api.OK}, {1024 * 7, 7, api.OK}, {1024*7 + 1, 7, api.ErrArg}, {1025 * 7, 7, api.ErrArg},
		{api.MaxCapacity, 1 << 14, api.OK}, {api.MaxCapacity, 1<<14 - 1, api.ErrArg}, {api.MaxCapacity, 1, api.ErrArg},
		{api.MaxCapacity, api.MaxCapacity, api.OK}, {api.MaxCapacity, math.MaxInt, api.OK},
		{api.MaxCapacity + 1, 1 << 20, api.ErrArg}, {api.MaxCapacity + 1, math.MaxInt, api.ErrArg}, {api.MaxCapacity + 1, 0, api.ErrArg},
	} {
		want := uint32(0)
		if x.e == api.OK {
			want = field.Sum(data[:x.n])
		}
		if got, e := field.Gather(data[:x.n], x.chunk); got != want || e != x.e {
			t.Errorf("Gather(%d bytes, %d) = %08x, error %d, want %08x, %d", x.n, x.chunk, got, e, want, x.e)
		}
	}
	for _, chunk := range []int{1, 9, math.MaxInt} {
		for _, none := range [][]byte{nil, {}} {
			if got, e := field.Gather(none, chunk); got != 0 || e != api.OK {
				t.Errorf("Gather(nothing, %d) = %08x, error %d", chunk, got, e)
			}
		}
	}
}

func TestGatherAgain(t *testing.T) { // P0.7: whichever goroutine ends first
	data := make([]byte, 1<<18)
	rand.New(rand.NewSource(8)).Read(data)
	want := field.Sum(data)
	for range 50 {
		if got, e := field.Gather(data, 257); got != want || e != api.OK {
			t.Fatalf("Gather = %08x, error %d, want %08x", got, e, want)
		}
	}
}

func TestSumTells(t *testing.T) { // P2.15: differences within 32 bits that follow one another
	r := rand.New(rand.NewSource(9))
	for _, n := range []int{1, 2, 3, 4, 5, 6, 9, 40} {
		data := make([]byte, n)
		r.Read(data)
		sum := field.Sum(data)
		for from := range 8 * n {
			width := min(32, 8*n-from)
			for try := range 100 {
				mask := uint64(r.Uint32())
				if try < width {
					mask = 1 << try
				}
				mask &= 1<<width - 1
				other := slices.Clone(data)
				for bit := range width {
					other[(from+bit)/8] ^= byte(mask>>bit&1) << ((from + bit) % 8)
				}
				if mask != 0 && field.Sum(other) == sum {
					t.Fatalf("%d bytes, the mask %x from the bit %d on: the same sum", n, mask, from)
				}
			}
		}
	}
}

func TestSumTellsShort(t *testing.T) { // P2.15: all lists of two bytes have sums of their own
	seen := map[uint32]bool{}
	for v := range 1 << 16 {
		seen[field.Sum([]byte{byte(v), byte(v >> 8)})] = true
	}
	if len(seen) != 1<<16 {
		t.Errorf("%d sums of %d lists", len(seen), 1<<16)
	}
}
