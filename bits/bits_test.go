package bits_test

import (
	"bytes"
	"math"
	"testing"

	"valise/api"
	"valise/bits"
)

// most is how many bits a text of bits may hold.
const most = 8 * api.MaxPacked

// ones are the bytes of n bits that are all 1.
func ones(n int) []byte {
	out := bytes.Repeat([]byte{255}, n/8)
	if n%8 > 0 {
		out = append(out, 1<<(n%8)-1)
	}
	return out
}

// writerOf is a writer that holds n bits, all of them 1.
func writerOf(t *testing.T, n int) *bits.Writer {
	t.Helper()
	w := bits.NewWriter()
	raw(t, w, ones(n/8*8))
	put(t, w, 1<<(n%8)-1, n%8)
	return w
}

func put(t *testing.T, w *bits.Writer, v uint32, n int) {
	t.Helper()
	if e := w.Put(v, n); e != api.OK {
		t.Fatalf("Put(%d, %d) = %d", v, n, e)
	}
}

func raw(t *testing.T, w *bits.Writer, data []byte) {
	t.Helper()
	if e := w.Raw(data); e != api.OK {
		t.Fatalf("Raw of %d bytes = %d", len(data), e)
	}
}

// holds asks whether a writer holds n bits, and these bytes.
func holds(t *testing.T, w *bits.Writer, n int, want ...byte) {
	t.Helper()
	if got := w.Bytes(); w.Len() != n || !bytes.Equal(got, want) {
		t.Errorf("Len %d, Bytes %x, want %d and %x", w.Len(), got, n, want)
	}
}

// stands asks whether a reader is at a place, with so many bits behind it.
func stands(t *testing.T, r *bits.Reader, at, left int) {
	t.Helper()
	if r.At() != at || r.Left() != left {
		t.Errorf("At %d, Left %d, want %d and %d", r.At(), r.Left(), at, left)
	}
}

func TestReverseTurnsEveryBit(t *testing.T) { // P3.14
	for n := range 33 {
		for i := range n {
			if v, e := bits.Reverse(1<<i, n); v != 1<<(n-1-i) || e != api.OK {
				t.Errorf("Reverse(1<<%d, %d) = %d, %d", i, n, v, e)
			}
		}
		top := uint32(1<<n - 1) // wraps round to 2^32 - 1 where n is 32
		if v, e := bits.Reverse(top, n); v != top || e != api.OK {
			t.Errorf("Reverse(%d, %d) = %d, %d", top, n, v, e)
		}
		if v, e := bits.Reverse(0, n); v != 0 || e != api.OK {
			t.Errorf("Reverse(0, %d) = %d, %d", n, v, e)
		}
	}
	if v, e := bits.Reverse(0x12345678, 32); v != 0x1e6a2c48 || e != api.OK {
		t.Errorf("Reverse(0x12345678, 32) = %x, %d", v, e)
	}
}

func TestReverseRefuses(t *testing.T) { // P3.14
	for n := range 32 {
		for _, v := range []uint32{1 << n, 1<<n + 1, math.MaxUint32} {
			if got, e := bits.Reverse(v, n); got != 0 || e != api.ErrArg {
				t.Errorf("Reverse(%d, %d) = %d, %d", v, n, got, e)
			}
		}
	}
	for _, n := range []int{-1, -32, 33, 64, 1 << 32, math.MinInt, math.MaxInt} {
		for _, v := range []uint32{0, 1, math.MaxUint32} {
			if got, e := bits.Reverse(v, n); got != 0 || e != api.ErrArg {
				t.Errorf("Reverse(%d, %d) = %d, %d", v, n, got, e)
			}
		}
	}
}

func TestReverseTwiceIsNothing(t *testing.T) { // P3.14
	for n := range 17 {
		for v := range uint32(1) << n {
			once, _ := bits.Reverse(v, n)
			if twice, e := bits.Reverse(once, n); twice != v || e != api.OK {
				t.Fatalf("Reverse(%d, %d) = %d, and back %d, %d", v, n, once, twice, e)
			}
		}
	}
}
