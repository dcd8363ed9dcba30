package deflate_test

import (
	"strings"
	"testing"

	"valise/api"
	"valise/deflate"
)

// storedModel is the chapter's words of a stored text, byte by byte.
func storedModel(text string) string {
	var out strings.Builder
	for {
		n := min(len(text), 65535)
		last := byte(0)
		if n == len(text) {
			last = 1
		}
		out.Write([]byte{last, byte(n), byte(n >> 8), ^byte(n), ^byte(n >> 8)})
		out.WriteString(text[:n])
		text = text[n:]
		if last == 1 {
			return out.String()
		}
	}
}

// lengths is the numbers of bytes at which a block more begins, and those beside them.
func lengths() []int {
	var all []int
	for _, n := range []int{0, 1, 255, 256, 1000, 65535, 2 * 65535, 3 * 65535, 1 << 20} {
		all = append(all, max(0, n-1), n, n+1)
	}
	return all
}

func TestStored(t *testing.T) { // P11.2
	for _, n := range lengths() {
		text := noise(int64(n), n)
		want := storedModel(text)
		if got, e := deflate.Stored([]byte(text)); string(got) != want || e != api.OK {
			t.Errorf("Stored of %d bytes = %d bytes, %d, want %d", n, len(got), e, len(want))
		}
		bounds(t, n, len(want))
	}
}

func TestStoredBlocks(t *testing.T) { // P11.2: of 65535 bytes each but the last, which has at least one
	for _, c := range []struct{ n, blocks, last int }{
		{0, 1, 0}, {1, 1, 1}, {65534, 1, 65534}, {65535, 1, 65535}, {65536, 2, 1}, {131070, 2, 65535}, {131071, 3, 1}, {api.MaxCapacity, 257, 256},
	} {
		pieces, e := deflate.Pieces(make([]byte, c.n), 0)
		if e != api.OK || len(pieces) != c.blocks {
			t.Fatalf("%d bytes make %d blocks, %d, want %d", c.n, len(pieces), e, c.blocks)
		}
		for i, p := range pieces {
			final := i == c.blocks-1
			size := 65535
			if final {
				size = c.last
			}
			if p.Kind != api.KindStored || p.Final != final || p.End-p.Start != size {
				t.Errorf("the block %d of %d bytes is %v", i, c.n, p)
			}
		}
	}
}

func TestBound(t *testing.T) { // P11.3
	bounds(t, api.MaxCapacity, api.MaxCapacity+5*257)
	bounds(t, api.MaxCapacity-1, api.MaxCapacity-1+5*257)
	for _, n := range []int{-1, -65535, -1 << 63, api.MaxCapacity + 1, 1 << 32, 1<<63 - 1} {
		if got, e := deflate.Bound(n); got != 0 || e != api.ErrArg {
			t.Errorf("Bound(%d) = %d, %d", n, got, e)
		}
	}
}
