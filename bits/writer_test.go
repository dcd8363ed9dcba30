package bits_test

import (
	"bytes"
	"math"
	"testing"

	"valise/api"
	"valise/bits"
)

func TestNewWriter(t *testing.T) { // P3.1
	w := bits.NewWriter()
	if w == nil {
		t.Fatal("NewWriter answers nil")
	}
	holds(t, w, 0)
	put(t, w, 1, 1)
	holds(t, bits.NewWriter(), 0)
}

func TestPutLaysLowBitsFirst(t *testing.T) { // P3.2
	for lead := range 9 {
		for n := range 33 {
			for i := range n {
				w := bits.NewWriter()
				put(t, w, 0, lead)
				put(t, w, 1<<i, n)
				want := make([]byte, (lead+n+7)/8)
				want[(lead+i)/8] = 1 << ((lead + i) % 8)
				holds(t, w, lead+n, want...)
			}
		}
	}
}

func TestPutAtTheEdgesOfItsNumbers(t *testing.T) { // P3.2
	for lead := range 8 {
		for n := range 33 {
			w := writerOf(t, lead)
			put(t, w, uint32(1<<n-1), n)
			holds(t, w, lead+n, ones(lead+n)...)
		}
		for n := range 32 {
			w := writerOf(t, lead)
			for _, v := range []uint32{1 << n, 1<<n + 1, math.MaxUint32} {
				if e := w.Put(v, n); e != api.ErrArg {
					t.Errorf("Put(%d, %d) = %d", v, n, e)
				}
			}
			holds(t, w, lead, ones(lead)...)
		}
	}
}

func TestPutRefusesCounts(t *testing.T) { // P3.2
	w := writerOf(t, 5)
	for _, n := range []int{-1, -8, -64, 33, 40, 64, 65, 1 << 32, math.MinInt, math.MaxInt} {
		for _, v := range []uint32{0, 1, math.MaxUint32} {
			if e := w.Put(v, n); e != api.ErrArg {
				t.Errorf("Put(%d, %d) = %d", v, n, e)
			}
		}
	}
	holds(t, w, 5, 0x1f)
}

func TestPutNothing(t *testing.T) { // P3.2
	for n := range 10 {
		w := writerOf(t, n)
		put(t, w, 0, 0)
		if e := w.Put(1, 0); e != api.ErrArg {
			t.Errorf("Put(1, 0) behind %d bits = %d", n, e)
		}
		holds(t, w, n, ones(n)...)
	}
}

func TestPutUpToTheMost(t *testing.T) { // P3.2
	for _, short := range []int{0, 1, 7, 8, 9, 31, 32} {
		w := writerOf(t, most-short)
		for n := short + 1; n <= 32; n++ {
			if e := w.Put(0, n); e != api.ErrArg || w.Len() != most-short {
				t.Errorf("Put(0, %d) where %d may come = %d, Len %d", n, short, e, w.Len())
			}
		}
		put(t, w, 0, short)
		put(t, w, 0, 0)
		if e := w.Put(0, 1); e != api.ErrArg || w.Len() != most {
			t.Errorf("a bit beyond the most = %d, Len %d", e, w.Len())
		}
		want := make([]byte, api.MaxPacked)
		copy(want, ones(most-short))
		if !bytes.Equal(w.Bytes(), want) {
			t.Errorf("the most bits, %d of them 0, are not as they were put", short)
		}
	}
}

func TestWriterAlign(t *testing.T) { // P3.3
	for n := range 26 {
		w := writerOf(t, n)
		for range 2 {
			w.Align()
			holds(t, w, (n+7)/8*8, ones(n)...)
		}
		put(t, w, 1, 1)
		if b := w.Bytes(); len(b) != (n+7)/8+1 || b[len(b)-1] != 1 {
			t.Errorf("a bit behind the border of %d bits: %x", n, b)
		}
	}
}

func TestAlignUpToTheMost(t *testing.T) { // P3.3
	for _, short := range []int{0, 1, 7} {
		w := writerOf(t, most-short)
		if w.Align(); w.Len() != most {
			t.Errorf("Align %d bits ahead of the most: Len %d", short, w.Len())
		}
	}
}

func TestWriterRaw(t *testing.T) { // P3.4
	w := bits.NewWriter()
	raw(t, w, nil)
	raw(t, w, []byte{})
	holds(t, w, 0)
	raw(t, w, []byte{0x81, 0, 0x7f})
	put(t, w, 0xa5, 8)
	raw(t, w, []byte{0})
	holds(t, w, 40, 0x81, 0, 0x7f, 0xa5, 0)
	raw(t, w, nil)
	holds(t, w, 40, 0x81, 0, 0x7f, 0xa5, 0)
}

func TestWriterRawOffTheBorder(t *testing.T) { // P3.4
	for n := range 18 {
		for _, data := range [][]byte{nil, {}, {1}, {1, 2}} {
			w := writerOf(t, n)
			e := w.Raw(data)
			if n%8 == 0 && e == api.OK {
				holds(t, w, n+8*len(data), append(ones(n), data...)...)
				continue
			}
			if n%8 == 0 || e != api.ErrBitsEdge {
				t.Errorf("Raw(%x) behind %d bits = %d", data, n, e)
			}
			holds(t, w, n, ones(n)...)
		}
	}
}

func TestWriterRawUpToTheMost(t *testing.T) { // P3.4
	all := make([]byte, api.MaxPacked+1)
	for _, c := range []struct {
		held, bytes int
		want        api.Errno
	}{
		{0, api.MaxPacked + 1, api.ErrArg},
		{1, api.MaxPacked + 1, api.ErrArg},
		{1, api.MaxPacked, api.ErrArg}, // ahead of ErrBitsEdge
		{7, api.MaxPacked, api.ErrArg},
		{1, api.MaxPacked - 1, api.ErrBitsEdge},
		{7, api.MaxPacked - 1, api.ErrBitsEdge},
		{8, api.MaxPacked, api.ErrArg},
		{9, api.MaxPacked - 1, api.ErrArg},
		{9, api.MaxPacked - 2, api.ErrBitsEdge},
		{most, 1, api.ErrArg},
		{most - 1, 1, api.ErrArg},
		{most - 7, 1, api.ErrArg},
		{most - 9, 1, api.ErrBitsEdge},
		{most - 1, 0, api.ErrBitsEdge},
		{most, 0, api.OK},
		{most - 8, 1, api.OK},
		{8, api.MaxPacked - 1, api.OK},
		{0, api.MaxPacked, api.OK},
	} {
		w := writerOf(t, c.held)
		if e := w.Raw(all[:c.bytes]); e != c.want {
			t.Errorf("Raw of %d bytes behind %d bits = %d, want %d", c.bytes, c.held, e, c.want)
		}
		if n := w.Len(); (c.want == api.OK && n != most) || (c.want != api.OK && n != c.held) {
			t.Errorf("Raw of %d bytes behind %d bits: Len %d", c.bytes, c.held, n)
		}
	}
}

func TestWriterRawKeepsNothing(t *testing.T) { // P3.4, P0.3
	data := []byte{1, 2, 3, 4}
	w := bits.NewWriter()
	raw(t, w, data[:2])
	data[0], data[2] = 9, 9
	put(t, w, 7, 8)
	if holds(t, w, 24, 1, 2, 7); !bytes.Equal(data, []byte{9, 2, 9, 4}) {
		t.Errorf("what was handed in is now %x", data)
	}
}

func TestJoinAtEveryBit(t *testing.T) { // P3.5
	for n := range 18 {
		for m := range 18 {
			w, x, want := bits.NewWriter(), bits.NewWriter(), bits.NewWriter()
			for i := range n {
				v := uint32(i % 3 & 1)
				put(t, w, v, 1)
				put(t, want, v, 1)
			}
			for i := range m {
				v := uint32((i + 1) % 5 & 1)
				put(t, x, v, 1)
				put(t, want, v, 1)
			}
			ahead := x.Bytes()
			if e := w.Join(x); e != api.OK {
				t.Errorf("Join of %d and %d bits = %d", n, m, e)
			}
			holds(t, w, n+m, want.Bytes()...)
			holds(t, x, m, ahead...)
			put(t, w, 1, 1)
			put(t, want, 1, 1)
			holds(t, w, n+m+1, want.Bytes()...)
		}
	}
}

func TestJoinWithItself(t *testing.T) { // P3.5
	for n := range 40 {
		w, want := bits.NewWriter(), bits.NewWriter()
		for i := range n {
			put(t, w, uint32(i%3&1), 1)
		}
		for i := range 4 * n {
			put(t, want, uint32(i%n%3&1), 1)
		}
		for range 2 {
			if e := w.Join(w); e != api.OK {
				t.Errorf("%d bits joined with themselves = %d", n, e)
			}
		}
		holds(t, w, 4*n, want.Bytes()...)
	}
}

func TestJoinKeepsNothing(t *testing.T) { // P3.5, P0.3
	for _, lead := range []int{0, 3} {
		w, x := bits.NewWriter(), bits.NewWriter()
		put(t, w, 0, lead)
		raw(t, x, []byte{1, 2})
		w.Join(x)
		put(t, w, 0, (8-lead)%8)
		ahead := w.Bytes()
		raw(t, x, []byte{9, 9, 9})
		holds(t, w, 8*len(ahead), ahead...)
		raw(t, w, []byte{8, 8, 8})
		holds(t, x, 40, 1, 2, 9, 9, 9)
	}
}

func TestJoinRefusesNil(t *testing.T) { // P3.5
	w := writerOf(t, 11)
	if e := w.Join(nil); e != api.ErrArg {
		t.Errorf("Join(nil) = %d", e)
	}
	holds(t, w, 11, ones(11)...)
}

func TestJoinUpToTheMost(t *testing.T) { // P3.5
	for _, c := range []struct {
		n, m int
		want api.Errno
	}{
		{0, most, api.OK}, {most, 0, api.OK}, {1, most - 1, api.OK}, {most - 13, 13, api.OK},
		{1, most, api.ErrArg}, {most, 1, api.ErrArg}, {most - 13, 14, api.ErrArg}, {most, most, api.ErrArg},
	} {
		w, x := writerOf(t, c.n), writerOf(t, c.m)
		e := w.Join(x)
		if e != c.want || x.Len() != c.m {
			t.Errorf("%d and %d bits joined = %d; the second one's Len %d", c.n, c.m, e, x.Len())
		}
		if n := w.Len(); (e == api.OK && n != most) || (e != api.OK && n != c.n) {
			t.Errorf("%d and %d bits joined: Len %d", c.n, c.m, n)
		}
	}
	w := writerOf(t, most/2)
	if e := w.Join(w); e != api.OK || w.Len() != most {
		t.Errorf("half of the most joined with itself = %d, Len %d", e, w.Len())
	}
	w = writerOf(t, most/2+1)
	if e := w.Join(w); e != api.ErrArg || w.Len() != most/2+1 {
		t.Errorf("a bit more than half of the most joined with itself = %d, Len %d", e, w.Len())
	}
}

func TestBytesChangesNothing(t *testing.T) { // P3.6
	w, want := bits.NewWriter(), bits.NewWriter()
	for i := range 50 {
		put(t, w, uint32(i%3&1), 1)
		put(t, want, uint32(i%3&1), 1)
		if len(w.Bytes()) != (i+8)/8 || w.Len() != i+1 {
			t.Errorf("%d bits: Len %d, %d bytes", i+1, w.Len(), len(w.Bytes()))
		}
	}
	holds(t, w, 50, want.Bytes()...)
}

func TestBytesIsNewMemory(t *testing.T) { // P3.6, P0.3
	for _, n := range []int{16, 20, 24, 29} {
		w := writerOf(t, n)
		a, b := w.Bytes(), w.Bytes()
		clear(a[:cap(a)])
		if holds(t, w, n, ones(n)...); !bytes.Equal(b, ones(n)) {
			t.Errorf("two answers share memory")
		}
		w.Align()
		raw(t, w, []byte{7, 7, 7})
		if !bytes.Equal(b, ones(n)) || !bytes.Equal(a, make([]byte, len(b))) {
			t.Errorf("answers change with their writer: %x, %x", a, b)
		}
	}
}

func TestNilWriter(t *testing.T) { // P0.6
	var w *bits.Writer
	w.Align()
	for name, e := range map[string]api.Errno{
		"Put(0, 0)": w.Put(0, 0), "Put(1, 1)": w.Put(1, 1), "Put(0, 33)": w.Put(0, 33),
		"Raw(nil)": w.Raw(nil), "Raw(1)": w.Raw([]byte{1}),
		"Join(nil)": w.Join(nil), "Join(new)": w.Join(bits.NewWriter()), "Join(some)": w.Join(writerOf(t, 3)),
	} {
		if e != api.ErrArg {
			t.Errorf("%s of a nil writer = %d", name, e)
		}
	}
	if w.Len() != 0 || w.Bytes() != nil {
		t.Errorf("a nil writer: Len %d, Bytes %x", w.Len(), w.Bytes())
	}
}

func TestBareWriter(t *testing.T) { // P0.1
	var w bits.Writer
	w.Align()
	holds(t, &w, 0)
	put(t, &w, 3, 2)
	if e := w.Join(&bits.Writer{}); e != api.OK {
		t.Errorf("Join with a bare writer = %d", e)
	}
	holds(t, &w, 2, 3)
}

func TestWritersInTurns(t *testing.T) { // P0.7
	a, b := bits.NewWriter(), bits.NewWriter()
	for i := range uint32(20) {
		put(t, a, i&1, 1)
		put(t, b, 1-i&1, 1)
	}
	holds(t, a, 20, 0xaa, 0xaa, 0x0a)
	holds(t, b, 20, 0x55, 0x55, 0x05)
}
