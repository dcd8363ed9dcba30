package wrap

import (
	"math"
	"slices"
	"sync"

	"valise/api"
	"valise/deflate"
	"valise/field"
	"valise/inflate"
)

const (
	abreast    = 8  // so many members are packed at one time: there may be thousands of them
	firstReach = 64 // so many bytes of a packed text are tried first: it may be one of millions of short ones
	growth     = 16 // and so many times more with each further try
)

// tooLong tells whether the members have more bytes together than may be.
func tooLong(members []api.Member) bool {
	left := api.MaxCapacity
	for _, m := range members {
		for _, n := range []int{len(m.Data), len(m.Extra), len(m.Name), len(m.Note)} {
			if n > left {
				return true
			}
			left -= n
		}
	}
	return false
}

// laid is the members behind their heads, one behind the other.
func laid(heads [][]byte, members []api.Member, level int) []byte {
	var out []byte
	for group := range slices.Chunk(members, abreast) {
		for i, text := range bodies(group, level) {
			out = append(out, heads[i]...)
			out = append(out, text...)
		}
		heads = heads[len(group):]
	}
	return out
}

// bodies tells what stands behind the head of each member.
func bodies(members []api.Member, level int) [][]byte {
	out := make([][]byte, len(members))
	var workers sync.WaitGroup
	for i, m := range members {
		workers.Go(func() { out[i] = body(m.Data, level) })
	}
	workers.Wait()
	return out
}

// body is a packed text and what is said behind it. The texts of all members together are short enough, and the level is one: so Deflate has no error.
func body(plain []byte, level int) []byte {
	packed, _ := deflate.Deflate(plain, level)
	b := field.NewBuffer(math.MaxInt)
	b.U32(int(field.Sum(plain)))
	b.U32(len(plain))
	return append(packed, b.Take()...)
}

// reading is gzip wrappers that are being read.
type reading struct {
	data  []byte
	in    *field.Cursor // over data
	limit int           // how many plain bytes there may still be
}

// member reads the next member.
func (r *reading) member() (api.Member, api.Errno) {
	m, e := r.head()
	if e != api.OK {
		return api.Member{}, e
	}
	m.Data, e = r.text()
	if e != api.OK {
		return api.Member{}, e
	}
	if e := r.checkTail(m.Data); e != api.OK {
		return api.Member{}, e
	}
	return m, api.OK
}

// text reads a packed text, and tells the plain one.
func (r *reading) text() ([]byte, api.Errno) {
	plain, used, e := unpacked(r.data[r.in.At():], r.limit)
	if e != api.OK {
		return nil, e
	}
	r.in.Skip(bytesOf(used))
	r.limit -= len(plain)
	return plain, api.OK
}

// checkTail reads what is said behind a packed text, and tells what is wrong with it.
func (r *reading) checkTail(plain []byte) api.Errno {
	sum, size := r.in.U32(), r.in.U32()
	switch {
	case r.in.Err() != api.OK:
		return api.ErrWrapShort
	case sum != int(field.Sum(plain)):
		return api.ErrWrapSum
	case size != len(plain):
		return api.ErrWrapSize
	}
	return api.OK
}

// unpacked is inflate.Inflate of data. To unpack is to copy all of data first, and behind each of very many members stand all the others: so it is tried with few bytes, and with more only while it wants more.
func unpacked(data []byte, limit int) (plain []byte, used int, e api.Errno) {
	for reach := firstReach; ; reach *= growth {
		plain, used, e = inflate.Inflate(data[:min(reach, len(data))], limit)
		if reach >= len(data) || !wantsMore(e) {
			return plain, used, e
		}
	}
}

// wantsMore tells whether an error may be that of a text whose bytes are not all there. Any other one stays, whatever stands behind.
func wantsMore(e api.Errno) bool {
	return e == api.ErrInfEnd || e == api.ErrHeadEnd
}
