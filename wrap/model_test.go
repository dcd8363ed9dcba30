package wrap_test

import (
	"math/rand"
	"strings"
	"testing"

	"valise/api"
	"valise/field"
	"valise/inflate"
	"valise/wrap"
)

// read tells a number of n bytes, the lowest first.
func read(text string, n int) int {
	v := 0
	for i := n - 1; i >= 0; i-- {
		v = v*256 + int(text[i])
	}
	return v
}

// behind is what stands behind the byte in which the bit ahead of this one is.
func behind(data string, used int) string {
	for used%8 > 0 {
		used++
	}
	return data[used/8:]
}

// plainGetZlib is P23.4 in the chapter's words.
func plainGetZlib(data string, limit int) (string, api.Errno) {
	if len(data) > 33554432 || limit < 0 || limit > 16777216 {
		return "", api.ErrArg
	}
	if len(data) < 2 {
		return "", api.ErrWrapShort
	}
	if data[0]%16 != 8 || data[0]/16 > 7 || (256*int(data[0])+int(data[1]))%31 != 0 {
		return "", api.ErrWrapHead
	}
	if data[1]/32%2 == 1 {
		return "", api.ErrWrapField
	}
	out, used, e := inflate.Inflate([]byte(data[2:]), limit)
	if e != api.OK {
		return "", e
	}
	rest := behind(data[2:], used)
	if len(rest) < 4 {
		return "", api.ErrWrapShort
	}
	if read(backward(rest[:4]), 4) != int(plainAdler(string(out))) {
		return "", api.ErrWrapSum
	}
	if len(rest) > 4 {
		return "", api.ErrInfRest
	}
	return string(out), api.OK
}

// plainGetGzip is P23.6 in the chapter's words.
func plainGetGzip(data string, limit int) ([]api.Member, api.Errno) {
	if len(data) > 33554432 || limit < 0 || limit > 16777216 {
		return nil, api.ErrArg
	}
	var members []api.Member
	for data != "" {
		m, rest, e := plainMember(data, limit)
		if e != api.OK {
			return nil, e
		}
		members = append(members, m)
		limit -= len(m.Data)
		data = rest
	}
	return members, api.OK
}

func plainMember(data string, limit int) (api.Member, string, api.Errno) {
	m, rest, e := plainHeadOf(data)
	if e != api.OK {
		return m, "", e
	}
	out, used, e := inflate.Inflate([]byte(rest), limit)
	if e != api.OK {
		return m, "", e
	}
	rest = behind(rest, used)
	if len(rest) < 8 {
		return m, "", api.ErrWrapShort
	}
	if read(rest, 4) != int(field.Sum(out)) {
		return m, "", api.ErrWrapSum
	}
	if read(rest[4:], 4) != len(out) {
		return m, "", api.ErrWrapSize
	}
	m.Data = out
	return m, rest[8:], api.OK
}

func plainHeadOf(data string) (m api.Member, rest string, e api.Errno) {
	if len(data) < 10 {
		return m, "", api.ErrWrapShort
	}
	if data[0] != 0x1f || data[1] != 0x8b || data[2] != 8 {
		return m, "", api.ErrWrapHead
	}
	flags := data[3]
	if flags&32 != 0 || flags&64 != 0 || flags&128 != 0 {
		return m, "", api.ErrWrapField
	}
	m.Text, m.Checked = flags&1 != 0, flags&2 != 0
	m.Time, m.Hint, m.System = read(data[4:], 4), int(data[8]), int(data[9])
	rest = data[10:]
	if flags&4 != 0 {
		if len(rest) < 2 || len(rest)-2 < read(rest, 2) {
			return m, "", api.ErrWrapShort
		}
		m.Extra, rest = rest[2:2+read(rest, 2)], rest[2+read(rest, 2):]
	}
	ended := true
	if flags&8 != 0 {
		m.Name, rest, ended = strings.Cut(rest, "\x00")
	}
	if ended && flags&16 != 0 {
		m.Note, rest, ended = strings.Cut(rest, "\x00")
	}
	if !ended {
		return m, "", api.ErrWrapShort
	}
	if flags&2 != 0 {
		if len(rest) < 2 {
			return m, "", api.ErrWrapShort
		}
		if read(rest, 2) != int(field.Sum([]byte(data[:len(data)-len(rest)])))%65536 {
			return m, "", api.ErrWrapSum
		}
		rest = rest[2:]
	}
	return m, rest, api.OK
}

// plainPutGzip is P23.5 in the chapter's words.
func plainPutGzip(level int, members []api.Member) (string, api.Errno) {
	if level < 0 || level > 9 {
		return "", api.ErrDeflateLevel
	}
	out := ""
	for _, m := range members {
		if m.Time < 0 || m.Time > 4294967295 || m.Hint < 0 || m.Hint > 255 || m.System < 0 || m.System > 255 || len(m.Extra) > 65535 || strings.ContainsRune(m.Name+m.Note, 0) {
			return "", api.ErrWrapField
		}
		flags, parts := 0, ""
		if m.Text {
			flags += 1
		}
		if m.Checked {
			flags += 2
		}
		if m.Extra != "" {
			flags += 4
			parts += number(len(m.Extra), 2) + m.Extra
		}
		if m.Name != "" {
			flags += 8
			parts += m.Name + "\x00"
		}
		if m.Note != "" {
			flags += 16
			parts += m.Note + "\x00"
		}
		head := "\x1f\x8b\x08" + number(flags, 1) + number(m.Time, 4) + number(m.Hint, 1) + number(m.System, 1) + parts
		if m.Checked {
			head = summed(head)
		}
		out += gzipped(head, packed(string(m.Data), level), string(m.Data))
	}
	return out, api.OK
}

// drawOther is bytes as they were, or with some of them others, cut, or with more of them.
func drawOther(r *rand.Rand, data string) string {
	for range r.Intn(3) {
		at := r.Intn(len(data) + 1)
		switch r.Intn(5) {
		case 0:
			data = data[:at]
		case 1:
			data = data[:at] + number(r.Int(), r.Intn(4)) + data[at:]
		case 2:
			data = data[:at] + data[min(at+1+r.Intn(3), len(data)):]
		default:
			if at < len(data) {
				data = data[:at] + string([]byte{data[at] ^ 1<<r.Intn(8)}) + data[at+1:]
			}
		}
	}
	return data
}

func TestModelZlib(t *testing.T) { // P23.4
	r := rand.New(rand.NewSource(340))
	met := map[api.Errno]int{}
	for range 20000 {
		plain := filler(r.Int63(), r.Intn(1+r.Intn(200)))
		data := drawOther(r, zlibbed(zlibHeads()[r.Intn(10)], packed(plain, r.Intn(10)), plain))
		limit := len(plain) + r.Intn(3)*(r.Intn(7)-3)
		want, e := plainGetZlib(data, limit)
		met[e]++
		if e != api.OK {
			noZlib(t, data, limit, e)
			continue
		}
		getZlib(t, data, limit, want)
	}
	for _, e := range []api.Errno{api.OK, api.ErrArg, api.ErrWrapShort, api.ErrWrapHead, api.ErrWrapSum, api.ErrInfRest, api.ErrInfLimit, api.ErrInfEnd, api.ErrInfKind} {
		if met[e] < 5 {
			t.Errorf("the error %d was met %d times", e, met[e])
		}
	}
}

func TestModelGetGzip(t *testing.T) { // P23.6
	r := rand.New(rand.NewSource(341))
	met := map[api.Errno]int{}
	for range 20000 {
		members := drawMembers(r)
		for i := range members {
			members[i].Data = members[i].Data[:min(len(members[i].Data), r.Intn(300))]
		}
		data, _ := plainPutGzip(r.Intn(10), members)
		data = drawOther(r, data)
		limit := sizeOf(members) + r.Intn(3)*(r.Intn(7)-3)
		want, e := plainGetGzip(data, limit)
		met[e]++
		if e != api.OK {
			noGzip(t, data, limit, e)
			continue
		}
		getGzip(t, data, limit, want...)
	}
	for _, e := range []api.Errno{api.OK, api.ErrArg, api.ErrWrapShort, api.ErrWrapHead, api.ErrWrapField, api.ErrWrapSum, api.ErrWrapSize, api.ErrInfLimit, api.ErrInfEnd, api.ErrInfKind} {
		if met[e] < 5 {
			t.Errorf("the error %d was met %d times", e, met[e])
		}
	}
}

func TestModelPutGzip(t *testing.T) { // P23.5
	r := rand.New(rand.NewSource(342))
	wrong := unfit()
	for range 3000 {
		members := drawMembers(r)
		if r.Intn(8) == 0 && len(members) > 0 {
			members[r.Intn(len(members))] = wrong[r.Intn(len(wrong))]
		}
		level := r.Intn(12) - 1
		want, e := plainPutGzip(level, members)
		if e != api.OK {
			refuseGzip(t, e, level, members...)
			continue
		}
		putGzip(t, want, level, members...)
	}
}

func TestModelSmall(t *testing.T) { // P23.4, P23.6: each byte of short wrappers as each other one, and each byte behind them
	z, g := zlibbed("\x78\x9c", "\x4b\x04\x00", "a"), gzipped(summed("\x1f\x8b\x08\x1e\x00\x00\x00\x00\x00\x00\x01\x00x\x00y\x00"), "\x4b\x04\x00", "a")
	for v := range 256 {
		for at := 0; at <= len(z); at++ {
			other := z[:at] + string([]byte{byte(v)}) + z[min(at+1, len(z)):]
			if want, e := plainGetZlib(other, 2); e == api.OK {
				getZlib(t, other, 2, want)
			} else {
				noZlib(t, other, 2, e)
			}
		}
		for at := 0; at <= len(g); at++ {
			other := g[:at] + string([]byte{byte(v)}) + g[min(at+1, len(g)):]
			if want, e := plainGetGzip(other, 2); e == api.OK {
				getGzip(t, other, 2, want...)
			} else {
				noGzip(t, other, 2, e)
			}
		}
	}
}

func TestModelAnyBytes(t *testing.T) { // P0.1, P0.4: whatever it is given
	r := rand.New(rand.NewSource(343))
	for range 20000 {
		data := make([]byte, r.Intn(40))
		r.Read(data)
		copy(data, [][]byte{nil, []byte("\x78\x9c"), []byte("\x1f\x8b\x08"), []byte("\x1f\x8b\x08\x1f")}[r.Intn(4)])
		limit := r.Intn(50)
		out, e := wrap.GetZlib(data, limit)
		if want, f := plainGetZlib(string(data), limit); string(out) != want || e != f {
			t.Errorf("GetZlib(% x, %d) = %q, %d, want %q, %d", data, limit, out, e, want, f)
		}
		got, e := wrap.GetGzip(data, limit)
		if want, f := plainGetGzip(string(data), limit); !alike(got, want) || e != f {
			t.Errorf("GetGzip(% x, %d) = %v, %d, want %v, %d", data, limit, got, e, want, f)
		}
	}
}
