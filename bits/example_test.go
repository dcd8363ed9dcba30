package bits_test

import (
	"bytes"
	"testing"

	"valise/api"
	"valise/bits"
)

func TestExampleWriter(t *testing.T) { // example 1
	w := bits.NewWriter()
	put(t, w, 1, 1)
	put(t, w, 2, 2)
	put(t, w, 5, 3)
	holds(t, w, 6, 0x2d)
	w.Align()
	raw(t, w, []byte{7, 0x80})
	holds(t, w, 24, 0x2d, 7, 0x80)
	if e := w.Put(3, 1); e != api.ErrArg {
		t.Errorf("Put(3, 1) = %d", e)
	}
	holds(t, w, 24, 0x2d, 7, 0x80)
}

func TestExampleJoin(t *testing.T) { // example 2
	w := bits.NewWriter()
	put(t, w, 1, 1)
	for _, data := range [][]byte{{1}, {2, 3}, {}, nil} {
		if e := w.Raw(data); e != api.ErrBitsEdge {
			t.Errorf("Raw(%x) = %d", data, e)
		}
	}
	if e := w.Join(w); e != api.OK {
		t.Errorf("Join with itself = %d", e)
	}
	holds(t, w, 2, 3)
	put(t, w, 0, 3)
	put(t, w, 1, 1)
	holds(t, w, 6, 0x23)
}

func TestExampleReader(t *testing.T) { // example 3
	r := bits.NewReader([]byte{0xb4, 1})
	if v, e := r.Take(3); v != 4 || e != api.OK || r.At() != 3 {
		t.Errorf("Take(3) = %d, %d, At %d", v, e, r.At())
	}
	if v, k := r.Peek(32); v != 54 || k != 13 {
		t.Errorf("Peek(32) = %d, %d", v, k)
	}
	if l, e := r.Raw(1); l != nil || e != api.ErrBitsEdge {
		t.Errorf("Raw(1) off the border = %x, %d", l, e)
	}
	if r.Align(); r.At() != 8 {
		t.Errorf("At %d", r.At())
	}
	if l, e := r.Raw(2); l != nil || e != api.ErrBitsEnd {
		t.Errorf("Raw(2) = %x, %d", l, e)
	}
	if l, e := r.Raw(1); !bytes.Equal(l, []byte{1}) || e != api.OK {
		t.Errorf("Raw(1) = %x, %d", l, e)
	}
	if v, e := r.Take(1); v != 0 || e != api.ErrBitsEnd {
		t.Errorf("Take(1) = %d, %d", v, e)
	}
	if v, e := r.Take(0); v != 0 || e != api.OK {
		t.Errorf("Take(0) = %d, %d", v, e)
	}
	if v, k := r.Peek(5); v != 0 || k != 0 {
		t.Errorf("Peek(5) = %d, %d", v, k)
	}
}

func TestExampleReverse(t *testing.T) { // example 4
	for _, c := range []struct {
		v    uint32
		n    int
		want uint32
		err  api.Errno
	}{
		{1, 5, 16, api.OK}, {6, 4, 6, api.OK}, {13, 4, 11, api.OK}, {1, 32, 2147483648, api.OK},
		{2, 1, 0, api.ErrArg}, {0, 33, 0, api.ErrArg}, {0, 0, 0, api.OK},
	} {
		if v, e := bits.Reverse(c.v, c.n); v != c.want || e != c.err {
			t.Errorf("Reverse(%d, %d) = %d, %d, want %d, %d", c.v, c.n, v, e, c.want, c.err)
		}
	}
}
