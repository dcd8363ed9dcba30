package bits_test

import (
	"bytes"
	"math/rand"
	"testing"

	"valise/api"
	"valise/bits"
)

// row is a string of bits by the chapter's words: a 0 or a 1 for each.
type row []byte

func (b row) bytes() []byte {
	out := make([]byte, (len(b)+7)/8)
	for i, bit := range b {
		out[i/8] += bit << (i % 8)
	}
	return out
}

func rowOf(data []byte) row {
	var out row
	for _, b := range data {
		for range 8 {
			out = append(out, b%2)
			b /= 2
		}
	}
	return out
}

func (b row) number() uint32 {
	v := uint32(0)
	for i := len(b) - 1; i >= 0; i-- {
		v = 2*v + uint32(b[i])
	}
	return v
}

func (b row) put(v uint32, n int) (row, api.Errno) {
	if n < 0 || n > 32 || uint64(v) >= uint64(1)<<n {
		return b, api.ErrArg
	}
	for range n {
		b = append(b, byte(v%2))
		v /= 2
	}
	return b, api.OK
}

func (b row) raw(data []byte) (row, api.Errno) {
	if len(b)%8 != 0 {
		return b, api.ErrBitsEdge
	}
	return append(b, rowOf(data)...), api.OK
}

func drawnBytes(r *rand.Rand, n int) []byte {
	data := make([]byte, n)
	r.Read(data)
	return data
}

func drawnCount(r *rand.Rand) int { return r.Intn(36) - 1 }

func TestWritersLikeTheModel(t *testing.T) { // P3.1 to P3.6
	r := rand.New(rand.NewSource(3))
	for range 400 {
		writers, models := [2]*bits.Writer{bits.NewWriter(), bits.NewWriter()}, [2]row{}
		for range 60 {
			i, want, got := r.Intn(2), api.OK, api.OK
			w, m := writers[i], &models[i]
			switch r.Intn(10) {
			case 0:
				w.Align()
				for len(*m)%8 != 0 {
					*m = append(*m, 0)
				}
			case 1, 2:
				data := drawnBytes(r, r.Intn(12))
				*m, want = m.raw(data)
				got = w.Raw(data)
			case 3:
				j := r.Intn(2)
				if len(models[j]) > 20000 {
					continue
				}
				got = w.Join(writers[j])
				*m = append(*m, models[j]...)
			default:
				n := drawnCount(r)
				v := r.Uint32()
				if r.Intn(8) > 0 {
					v &= uint32(uint64(1)<<max(n, 0) - 1)
				}
				*m, want = m.put(v, n)
				got = w.Put(v, n)
			}
			if got != want {
				t.Fatalf("a call answers %d, the model %d", got, want)
			}
			for k := range 2 {
				if writers[k].Len() != len(models[k]) || !bytes.Equal(writers[k].Bytes(), models[k].bytes()) {
					t.Fatalf("the writer %d: %x, the model: %x", k, writers[k].Bytes(), models[k].bytes())
				}
			}
		}
	}
}

// source is a reader by the chapter's words.
type source struct {
	all row
	at  int
}

func (s *source) take(n int) (uint32, api.Errno) {
	if n < 0 || n > 32 {
		return 0, api.ErrArg
	}
	if n > len(s.all)-s.at {
		return 0, api.ErrBitsEnd
	}
	s.at += n
	return s.all[s.at-n : s.at].number(), api.OK
}

func (s *source) peek(n int) (uint32, int) {
	if n < 0 || n > 32 {
		return 0, 0
	}
	there := min(n, len(s.all)-s.at)
	return s.all[s.at : s.at+there].number(), there
}

func (s *source) skip(n int) api.Errno {
	if n < 0 {
		return api.ErrArg
	}
	if n > len(s.all)-s.at {
		return api.ErrBitsEnd
	}
	s.at += n
	return api.OK
}

func (s *source) raw(n int) ([]byte, api.Errno) {
	if n < 0 {
		return nil, api.ErrArg
	}
	if s.at%8 != 0 {
		return nil, api.ErrBitsEdge
	}
	if 8*n > len(s.all)-s.at {
		return nil, api.ErrBitsEnd
	}
	s.at += 8 * n
	return s.all[s.at-8*n : s.at].bytes(), api.OK
}

func TestReadersLikeTheModel(t *testing.T) { // P3.7 to P3.13
	r := rand.New(rand.NewSource(4))
	for range 3000 {
		data := drawnBytes(r, r.Intn(40))
		s := &source{all: rowOf(data)}
		got := bits.NewReader(data)
		for range 30 {
			n := drawnCount(r)
			switch r.Intn(6) {
			case 0:
				got.Align()
				for s.at%8 != 0 {
					s.at++
				}
			case 1:
				v, e := got.Take(n)
				if x, f := s.take(n); v != x || e != f {
					t.Fatalf("Take(%d) = %d, %d, the model: %d, %d", n, v, e, x, f)
				}
			case 2:
				v, k := got.Peek(n)
				if x, l := s.peek(n); v != x || k != l {
					t.Fatalf("Peek(%d) = %d, %d, the model: %d, %d", n, v, k, x, l)
				}
			case 3:
				if e, f := got.Skip(n), s.skip(n); e != f {
					t.Fatalf("Skip(%d) = %d, the model: %d", n, e, f)
				}
			default:
				n = r.Intn(6) - 1
				l, e := got.Raw(n)
				if x, f := s.raw(n); !bytes.Equal(l, x) || e != f {
					t.Fatalf("Raw(%d) = %x, %d, the model: %x, %d", n, l, e, x, f)
				}
			}
			if got.At() != s.at || got.Left() != len(s.all)-s.at {
				t.Fatalf("At %d, Left %d, the model: %d of %d", got.At(), got.Left(), s.at, len(s.all))
			}
		}
	}
}

// move is a call of a writer, and the call of a reader that takes back what it laid.
type move struct {
	kind, n int
	v       uint32
	data    []byte
}

func TestWhatIsWrittenIsRead(t *testing.T) { // P3.15
	rnd := rand.New(rand.NewSource(5))
	for range 1000 {
		w, moves := bits.NewWriter(), []move{}
		for range rnd.Intn(50) {
			m := move{kind: rnd.Intn(8), n: rnd.Intn(33), data: drawnBytes(rnd, rnd.Intn(5))}
			m.v = uint32(uint64(rnd.Uint32()) & (1<<m.n - 1))
			switch {
			case m.kind == 0:
				w.Align()
			case m.kind == 1 && w.Len()%8 == 0:
				raw(t, w, m.data)
			default:
				m.kind = 2
				put(t, w, m.v, m.n)
			}
			moves = append(moves, m)
		}
		r := bits.NewReader(w.Bytes())
		for _, m := range moves {
			switch m.kind {
			case 0:
				r.Align()
			case 1:
				if l, e := r.Raw(len(m.data)); !bytes.Equal(l, m.data) || e != api.OK {
					t.Fatalf("Raw = %x, %d, not %x", l, e, m.data)
				}
			default:
				if v, e := r.Take(m.n); v != m.v || e != api.OK {
					t.Fatalf("Take(%d) = %d, %d, not %d", m.n, v, e, m.v)
				}
			}
		}
		if r.At() != w.Len() || r.Left() >= 8 {
			t.Fatalf("%d bits written, %d read, %d left", w.Len(), r.At(), r.Left())
		}
		if v, e := r.Take(r.Left()); v != 0 || e != api.OK {
			t.Fatalf("behind the last: %d, %d", v, e)
		}
	}
}
