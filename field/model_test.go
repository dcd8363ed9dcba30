package field_test

import (
	"math"
	"math/rand"
	"testing"

	"valise/api"
	"valise/field"
)

// reader is a cursor by the chapter's words, as plain as can be.
type reader struct {
	data string
	at   int
	err  api.Errno
}

func (r *reader) text(n int) string {
	switch {
	case r.err != api.OK:
	case n < 0:
		r.err = api.ErrArg
	case n > len(r.data)-r.at:
		r.err = api.ErrFieldShort
	default:
		r.at += n
		return r.data[r.at-n : r.at]
	}
	return ""
}

func (r *reader) number(n int) int {
	s, v := r.text(n), 0
	for i := len(s) - 1; i >= 0; i-- {
		v = 256*v + int(s[i])
	}
	return v
}

func (r *reader) seek(at int) {
	if r.err == api.OK && (at < 0 || at > len(r.data)) {
		r.err = api.ErrArg
	}
	if r.err == api.OK {
		r.at = at
	}
}

// bytesOf is v as n bytes, the lowest first.
func bytesOf(v, n int) string {
	var out []byte
	for range n {
		out = append(out, byte(v%256))
		v /= 256
	}
	return string(out)
}

// writer is a buffer by the chapter's words.
type writer struct {
	data  string
	limit int
	err   api.Errno
}

func (w *writer) text(s string) {
	if w.err == api.OK && len(w.data)+len(s) > w.limit {
		w.err = api.ErrFieldLimit
	}
	if w.err == api.OK {
		w.data += s
	}
}

func (w *writer) wide(v, n int) bool {
	if w.err == api.OK && (v < 0 || v > int(math.Pow(256, float64(n)))-1) {
		w.err = api.ErrFieldWide
	}
	return w.err != api.OK
}

func (w *writer) number(v, n int) {
	if !w.wide(v, n) {
		w.text(bytesOf(v, n))
	}
}

func (w *writer) patch(at, v int) {
	if w.err == api.OK && (at < 0 || at+4 > len(w.data)) {
		w.err = api.ErrArg
	}
	if !w.wide(v, 4) {
		w.data = w.data[:at] + bytesOf(v, 4) + w.data[at+4:]
	}
}

func TestCursorModel(t *testing.T) { // P2.1 to P2.5
	r := rand.New(rand.NewSource(10))
	for range 3000 {
		data := make([]byte, r.Intn(40))
		r.Read(data)
		c, m := field.NewCursor(data), &reader{data: string(data)}
		for range 30 {
			var got, want any
			switch n := r.Intn(9) - r.Intn(20)/19; r.Intn(6) {
			case 0:
				got, want = c.U8(), m.number(1)
			case 1:
				got, want = c.U16(), m.number(2)
			case 2:
				got, want = c.U32(), m.number(4)
			case 3:
				got, want = c.Text(n), m.text(n)
			case 4:
				c.Skip(n)
				m.text(n)
			case 5:
				at := r.Intn(len(data)+2) - r.Intn(20)/19
				c.Seek(at)
				m.seek(at)
			}
			if got != want {
				t.Fatalf("over % x at %d: %v, want %v", data, m.at, got, want)
			}
			stands(t, c, m.at, len(data)-m.at, m.err)
		}
	}
}

func TestBufferModel(t *testing.T) { // P2.6 to P2.10
	r := rand.New(rand.NewSource(11))
	number := func(n int) int {
		return r.Intn(1<<(8*n)+1) - r.Intn(20)/19*r.Intn(1<<(8*n))
	}
	for range 3000 {
		limit := r.Intn(60)
		b, m := field.NewBuffer(limit), &writer{limit: limit}
		for range 30 {
			switch r.Intn(5) {
			case 0:
				v := number(1)
				b.U8(v)
				m.number(v, 1)
			case 1:
				v := number(2)
				b.U16(v)
				m.number(v, 2)
			case 2:
				v := number(4)
				b.U32(v)
				m.number(v, 4)
			case 3:
				s := "abcdefghi"[:r.Intn(10)]
				b.Text(s)
				m.text(s)
			case 4:
				at, v := r.Intn(len(m.data)+1)-r.Intn(20)/19, number(4)
				if len(m.data) >= 4 && r.Intn(4) > 0 {
					at = r.Intn(len(m.data) - 3)
				}
				b.Patch32(at, v)
				m.patch(at, v)
			}
			holds(t, b, m.data, m.err)
		}
	}
}
