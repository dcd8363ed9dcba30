package bits_test

import (
	"bytes"
	"math"
	"testing"

	"valise/api"
	"valise/bits"
)

// readerAt is a reader over data that has left out n bits.
func readerAt(t *testing.T, data []byte, n int) *bits.Reader {
	t.Helper()
	r := bits.NewReader(data)
	if r == nil {
		t.Fatal("NewReader answers nil")
	}
	if e := r.Skip(n); e != api.OK {
		t.Fatalf("Skip(%d) = %d", n, e)
	}
	stands(t, r, n, 8*len(data)-n)
	return r
}

func TestNewReader(t *testing.T) { // P3.7
	for _, data := range [][]byte{nil, {}, {1}, {1, 2, 3}} {
		stands(t, readerAt(t, data, 0), 0, 8*len(data))
	}
	all := make([]byte, api.MaxPacked+1)
	if bits.NewReader(all) != nil {
		t.Errorf("a reader over a byte too many")
	}
	all[api.MaxPacked-1] = 0x80
	r := readerAt(t, all[:api.MaxPacked], most-1)
	if v, e := r.Take(1); v != 1 || e != api.OK {
		t.Errorf("the last bit of the most = %d, %d", v, e)
	}
	stands(t, r, most, 0)
}

func TestNewReaderCopies(t *testing.T) { // P3.7, P0.3
	data := []byte{0x12, 0x34}
	r := readerAt(t, data, 0)
	data[0], data[1] = 0, 0
	if v, e := r.Take(16); v != 0x3412 || e != api.OK {
		t.Errorf("Take(16) = %x, %d", v, e)
	}
}

func TestTakeAtEveryBit(t *testing.T) { // P3.8
	for at := range 40 {
		for n := range min(33, 49-at) {
			for i := range 48 {
				data := make([]byte, 6)
				data[i/8] = 1 << (i % 8)
				want := uint32(0)
				if i >= at && i < at+n {
					want = 1 << (i - at)
				}
				r := readerAt(t, data, at)
				if v, e := r.Take(n); v != want || e != api.OK {
					t.Fatalf("the bit %d: Take(%d) at %d = %d, %d, want %d", i, n, at, v, e, want)
				}
				stands(t, r, at+n, 48-at-n)
			}
		}
	}
}

func TestTakeAtTheEnd(t *testing.T) { // P3.8
	data := []byte{0xff, 0xff, 0xff, 0xff, 0xff}
	for at := range 41 {
		r, left := readerAt(t, data, at), 40-at
		for n := left + 1; n <= 32; n++ {
			if v, e := r.Take(n); v != 0 || e != api.ErrBitsEnd {
				t.Errorf("Take(%d) of %d bits = %d, %d", n, left, v, e)
			}
			stands(t, r, at, left)
		}
		n := min(left, 32)
		if v, e := r.Take(n); v != uint32(1<<n-1) || e != api.OK {
			t.Errorf("Take(%d) of %d bits = %d, %d", n, left, v, e)
		}
		stands(t, r, at+n, left-n)
		if v, e := r.Take(0); v != 0 || e != api.OK {
			t.Errorf("Take(0) = %d, %d", v, e)
		}
		stands(t, r, at+n, left-n)
	}
	if v, e := readerAt(t, nil, 0).Take(1); v != 0 || e != api.ErrBitsEnd {
		t.Errorf("Take(1) of nothing = %d, %d", v, e)
	}
	if v, e := readerAt(t, nil, 0).Take(0); v != 0 || e != api.OK {
		t.Errorf("Take(0) of nothing = %d, %d", v, e)
	}
}

func TestTakeRefusesCounts(t *testing.T) { // P3.8: also where ErrBitsEnd would fit
	for _, at := range []int{0, 3, 80} {
		r := readerAt(t, make([]byte, 10), at)
		for _, n := range []int{-1, -8, 33, 34, 64, 1 << 32, math.MinInt, math.MaxInt} {
			if v, e := r.Take(n); v != 0 || e != api.ErrArg {
				t.Errorf("Take(%d) = %d, %d", n, v, e)
			}
			stands(t, r, at, 80-at)
		}
	}
}

func TestPeek(t *testing.T) { // P3.9
	data := []byte{0xb4, 0x01, 0x80, 0xff, 0x13, 0xc7}
	for at := range 49 {
		for n := range 33 {
			r, want := readerAt(t, data, at), uint32(0)
			for i := range min(n, 48-at) {
				want |= uint32(data[(at+i)/8]>>((at+i)%8)&1) << i
			}
			for range 2 {
				if v, k := r.Peek(n); v != want || k != min(n, 48-at) {
					t.Errorf("Peek(%d) at %d = %x, %d, want %x", n, at, v, k, want)
				}
				stands(t, r, at, 48-at)
			}
		}
	}
	if v, k := readerAt(t, nil, 0).Peek(32); v != 0 || k != 0 {
		t.Errorf("Peek(32) of nothing = %d, %d", v, k)
	}
}

func TestPeekOutsideItsCounts(t *testing.T) { // P3.9
	for _, at := range []int{0, 3, 80} {
		r := readerAt(t, bytes.Repeat([]byte{255}, 10), at)
		for _, n := range []int{-1, -8, 33, 34, 64, 1 << 32, math.MinInt, math.MaxInt} {
			if v, k := r.Peek(n); v != 0 || k != 0 {
				t.Errorf("Peek(%d) = %d, %d", n, v, k)
			}
			stands(t, r, at, 80-at)
		}
	}
}

func TestSkip(t *testing.T) { // P3.10
	data := bytes.Repeat([]byte{1}, 20)
	for at := range 161 {
		r := readerAt(t, data, at)
		for _, n := range []int{161 - at, 168, 1 << 32, math.MaxInt - 160, math.MaxInt - 1, math.MaxInt} {
			if e := r.Skip(n); e != api.ErrBitsEnd {
				t.Errorf("Skip(%d) at %d = %d", n, at, e)
			}
			stands(t, r, at, 160-at)
		}
		for _, n := range []int{-1, -8, -160, math.MinInt} {
			if e := r.Skip(n); e != api.ErrArg {
				t.Errorf("Skip(%d) at %d = %d", n, at, e)
			}
			stands(t, r, at, 160-at)
		}
		if e := r.Skip(0); e != api.OK {
			t.Errorf("Skip(0) at %d = %d", at, e)
		}
		stands(t, r, at, 160-at)
		if e := r.Skip(160 - at); e != api.OK {
			t.Errorf("Skip(%d) at %d = %d", 160-at, at, e)
		}
		stands(t, r, 160, 0)
	}
}

func TestReaderAlign(t *testing.T) { // P3.11
	data := []byte{0, 1, 2, 3}
	for at := range 33 {
		r, border := readerAt(t, data, at), (at+7)/8*8
		for range 2 {
			r.Align()
			stands(t, r, border, 32-border)
		}
		if v, k := r.Peek(8); border < 32 && (v != uint32(border/8) || k != 8) {
			t.Errorf("behind Align at %d: Peek(8) = %d, %d", at, v, k)
		}
	}
	r := readerAt(t, nil, 0)
	r.Align()
	stands(t, r, 0, 0)
}

func TestReaderRaw(t *testing.T) { // P3.12
	data := []byte{0xb4, 1, 2, 0xff}
	for from := range 5 {
		for n := range 5 - from {
			r := readerAt(t, data, 8*from)
			if l, e := r.Raw(n); !bytes.Equal(l, data[from:from+n]) || e != api.OK || (n == 0) != (l == nil) {
				t.Errorf("Raw(%d) at the byte %d = %x, %d", n, from, l, e)
			}
			stands(t, r, 8*(from+n), 8*(4-from-n))
		}
	}
	if l, e := readerAt(t, nil, 0).Raw(0); l != nil || e != api.OK {
		t.Errorf("Raw(0) of nothing = %x, %d", l, e)
	}
}

func TestReaderRawRefuses(t *testing.T) { // P3.12: ErrArg, then ErrBitsEdge, then ErrBitsEnd
	data := []byte{0xb4, 1, 2, 0xff}
	for at := range 33 {
		r, want := readerAt(t, data, at), api.ErrBitsEnd
		if at%8 > 0 {
			want = api.ErrBitsEdge
		}
		refuses := func(n int, want api.Errno) {
			t.Helper()
			if l, e := r.Raw(n); l != nil || e != want {
				t.Errorf("Raw(%d) at %d = %x, %d, want %d", n, at, l, e, want)
			}
			stands(t, r, at, 32-at)
		}
		for _, n := range []int{-1, -8, math.MinInt} {
			refuses(n, api.ErrArg)
		}
		over := (32-at)/8 + 1
		for _, n := range []int{over, over + 1, 1 << 60, 1 << 61, 1<<61 + 1, 1 << 62, math.MaxInt} {
			refuses(n, want)
		}
		if at%8 > 0 {
			refuses(0, want)
			refuses(1, want)
		}
	}
}

func TestReaderRawIsNewMemory(t *testing.T) { // P3.12, P0.3
	r := readerAt(t, []byte{1, 2, 3, 4, 5}, 0)
	a, _ := r.Raw(2)
	for i := range a[:cap(a)] {
		a[:cap(a)][i] = 0xee
	}
	b, e := r.Raw(3)
	if !bytes.Equal(b, []byte{3, 4, 5}) || e != api.OK {
		t.Errorf("Raw(3) = %x, %d", b, e)
	}
	for i := range b[:cap(b)] {
		b[:cap(b)][i] = 0xdd
	}
	if !bytes.Equal(a, []byte{0xee, 0xee}) {
		t.Errorf("two answers share memory: %x", a)
	}
}

func TestPlaceAndRestAreTheWhole(t *testing.T) { // P3.13
	r := readerAt(t, make([]byte, 9), 0)
	r.Take(5)
	stands(t, r, 5, 67)
	r.Peek(9)
	stands(t, r, 5, 67)
	r.Skip(14)
	stands(t, r, 19, 53)
	r.Align()
	stands(t, r, 24, 48)
	r.Raw(2)
	stands(t, r, 40, 32)
	r.Take(32)
	stands(t, r, 72, 0)
}

func TestNilReader(t *testing.T) { // P0.6
	var r *bits.Reader
	r.Align()
	for _, n := range []int{-1, 0, 1, 33} {
		if v, e := r.Take(n); v != 0 || e != api.ErrArg {
			t.Errorf("Take(%d) of a nil reader = %d, %d", n, v, e)
		}
		if v, k := r.Peek(n); v != 0 || k != 0 {
			t.Errorf("Peek(%d) of a nil reader = %d, %d", n, v, k)
		}
		if e := r.Skip(n); e != api.ErrArg {
			t.Errorf("Skip(%d) of a nil reader = %d", n, e)
		}
		if l, e := r.Raw(n); l != nil || e != api.ErrArg {
			t.Errorf("Raw(%d) of a nil reader = %x, %d", n, l, e)
		}
	}
	stands(t, r, 0, 0)
}

func TestBareReader(t *testing.T) { // P0.1
	var r bits.Reader
	r.Align()
	if v, e := r.Take(1); v != 0 || e != api.ErrBitsEnd {
		t.Errorf("Take(1) of a bare reader = %d, %d", v, e)
	}
	if v, k := r.Peek(32); v != 0 || k != 0 {
		t.Errorf("Peek(32) of a bare reader = %d, %d", v, k)
	}
	if l, e := r.Raw(0); l != nil || e != api.OK {
		t.Errorf("Raw(0) of a bare reader = %x, %d", l, e)
	}
	stands(t, &r, 0, 0)
}

func TestReadersInTurns(t *testing.T) { // P0.7
	data := []byte{0x21, 0x43}
	a, b := readerAt(t, data, 0), readerAt(t, data, 4)
	for i := range uint32(3) {
		if v, e := a.Take(4); v != i+1 || e != api.OK {
			t.Errorf("the first reader: %d, %d", v, e)
		}
		if v, e := b.Take(4); v != i+2 || e != api.OK {
			t.Errorf("the second reader: %d, %d", v, e)
		}
	}
}
