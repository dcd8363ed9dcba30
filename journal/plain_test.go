package journal_test

import (
	"encoding/binary"
	"hash/crc32"
	"strings"

	"valise/api"
	"valise/disk"
)

// What stands here is the chapter word for word, place by place, with no thought of cost, on Go's own numbers and sums.

// write is a write of a text.
func write(at int, s string) api.Write { return api.Write{At: at, Data: []byte(s)} }

// zeros is so many bytes 0.
func zeros(n int) string { return strings.Repeat("\x00", n) }

// plainUp is up(n).
func plainUp(n int) int {
	for n%512 != 0 {
		n++
	}
	return n
}

// plainRight tells whether writes are right for a new size.
func plainRight(size int, writes []api.Write) bool {
	free := 0
	for _, w := range writes {
		if len(w.Data) < 1 || w.At < free || w.At > size || w.At+len(w.Data) > size {
			return false
		}
		free = w.At + len(w.Data)
	}
	return true
}

// plainApply is the new content.
func plainApply(content string, size int, writes []api.Write) string {
	list := []byte(zeros(size))
	for place := range list {
		if place < len(content) {
			list[place] = content[place]
		}
		for _, w := range writes {
			if place >= w.At && place < w.At+len(w.Data) {
				list[place] = w.Data[place-w.At]
			}
		}
	}
	return string(list)
}

// pair is two numbers of 32 bits, the lowest byte first.
func pair(a, b int) string {
	return string(binary.LittleEndian.AppendUint32(binary.LittleEndian.AppendUint32(nil, uint32(a)), uint32(b)))
}

// plainBody is how many saved spans there are, and the body.
func plainBody(content string, writes []api.Write) (int, string) {
	count, head, rest := 0, "", ""
	for _, w := range writes {
		n := 0
		for place := w.At; place < w.At+len(w.Data) && place < len(content); place++ {
			n++
		}
		if n > 0 {
			count++
			head += pair(w.At, n)
			rest += content[w.At : w.At+n]
		}
	}
	return count, head + rest
}

// plainPlaces is FILE, the seal place and the body place.
func plainPlaces(old, size, length int) (file, seal, body int) {
	body = plainUp(max(old, size))
	behind := body + plainUp(length)
	for k := 1; ; k++ {
		file = old + 1024*k
		seal = 512*(file/512) - 512
		if seal >= behind {
			return file, seal, body
		}
	}
}

// plainSector is the sector of a seal.
func plainSector(s api.Seal) string {
	text := []byte("VALISEJ1")
	for _, v := range []int{s.State, s.Seq, s.Old, s.New, s.Count, s.Length} {
		text = binary.LittleEndian.AppendUint32(text, uint32(v))
	}
	text = binary.LittleEndian.AppendUint32(text, s.Sum)
	text = binary.LittleEndian.AppendUint32(text, crc32.ChecksumIEEE(text))
	return string(text) + zeros(472)
}

// plainUnseal is the seal of a sector, if it is one.
func plainUnseal(sector string) (api.Seal, bool) {
	if len(sector) != 512 || sector[:8] != "VALISEJ1" {
		return api.Seal{}, false
	}
	var v [7]int
	for i := range v {
		v[i] = int(binary.LittleEndian.Uint32([]byte(sector[8+4*i:])))
	}
	s := api.Seal{State: v[0], Seq: v[1], Old: v[2], New: v[3], Count: v[4], Length: v[5], Sum: uint32(v[6])}
	return s, v[0] >= 2 && v[0] <= 4 && sector == plainSector(s)
}

// plainTail is the tail of a text.
func plainTail(s string) int { return len(s) - len(strings.TrimRight(s, "\x00")) }

// plainLook is the verdict over an image, the content, and where and what an armed seal's body puts back.
func plainLook(image string) (api.Verdict, string, []api.Write) {
	n, z := len(image), plainTail(image)
	if z >= 1024 {
		size := n - 1024*(z/1024)
		return api.Verdict{State: api.StateBlank, Size: size}, image[:size], nil
	}
	none := api.Verdict{Size: n}
	if n < 512 {
		return none, image, nil
	}
	at := 512*(n/512) - 512
	s, ok := plainUnseal(image[at : at+512])
	if !ok || s.Old > 1<<24 || s.New > 1<<24 || image[at+512:] != zeros(n-at-512) {
		return none, image, nil
	}
	file, _, body := plainPlaces(s.Old, s.New, s.Length)
	if file != n {
		return none, image, nil
	}
	if s.State == api.StateDone {
		return api.Verdict{State: s.State, Seq: s.Seq, Size: s.New}, image[:s.New], nil
	}
	v := api.Verdict{State: s.State, Seq: s.Seq, Size: s.Old}
	if s.State == api.StateClaimed {
		return v, image[:s.Old], nil
	}
	back, ok := plainUnbody(image[body:body+s.Length], s)
	if !ok {
		return none, image, nil
	}
	return v, plainApply(image[:s.Old], s.Old, back), back
}

// plainUnbody is what a body puts back, if it is right for a seal.
func plainUnbody(body string, s api.Seal) ([]api.Write, bool) {
	if crc32.ChecksumIEEE([]byte(body)) != s.Sum || 8*s.Count > len(body) {
		return nil, false
	}
	var back []api.Write
	taken, end := 8*s.Count, 0
	for i := range s.Count {
		at := int(binary.LittleEndian.Uint32([]byte(body[8*i:])))
		n := int(binary.LittleEndian.Uint32([]byte(body[8*i+4:])))
		if n < 1 || at < end || at+n > s.Old || taken+n > len(body) {
			return nil, false
		}
		back = append(back, write(at, body[taken:taken+n]))
		taken, end = taken+n, at+n
	}
	return back, taken == len(body)
}

// call is a changing call: w writes, t truncates, s syncs.
type call struct {
	kind byte
	at   int // or the size
	data string
}

// plainUpdate is the changing calls of an update that is not refused.
func plainUpdate(content string, seq, size int, writes []api.Write) []call {
	count, body := plainBody(content, writes)
	file, at, bodyAt := plainPlaces(len(content), size, len(body))
	seal := func(state int) string {
		return plainSector(api.Seal{State: state, Seq: seq, Old: len(content), New: size, Count: count, Length: len(body), Sum: crc32.ChecksumIEEE([]byte(body))})
	}
	calls := []call{{'w', at, seal(2) + zeros(file-at-512)}, {kind: 's'}}
	if body != "" {
		calls = append(calls, call{'w', bodyAt, body})
	}
	calls = append(calls, call{kind: 's'}, call{'w', at, seal(3)}, call{kind: 's'})
	for _, w := range writes {
		calls = append(calls, call{'w', w.At, string(w.Data)})
	}
	return append(calls, call{kind: 's'}, call{'w', at, seal(4)}, call{kind: 's'}, call{kind: 't', at: size}, call{kind: 's'})
}

// plainRecover is the changing calls of a recovery.
func plainRecover(image string) []call {
	v, _, back := plainLook(image)
	if v.State == api.StateNone {
		return nil
	}
	var calls []call
	for _, w := range back {
		calls = append(calls, call{'w', w.At, string(w.Data)})
	}
	if v.State == api.StateArmed {
		calls = append(calls, call{kind: 's'})
	}
	return append(calls, call{kind: 't', at: v.Size}, call{kind: 's'})
}

// follow makes the changing calls, up to the first error.
func follow(d *disk.Disk, calls []call) api.Errno {
	for _, c := range calls {
		e := api.OK
		switch c.kind {
		case 'w':
			e = d.WriteAt(c.at, []byte(c.data))
		case 't':
			e = d.Truncate(c.at)
		default:
			e = d.Sync()
		}
		if e != api.OK {
			return e
		}
	}
	return api.OK
}
