package wrap_test

import (
	"strings"
	"testing"

	"valise/api"
	"valise/wrap"
)

func TestGetGzipFlags(t *testing.T) { // P23.6: each byte of flags, its parts in their order
	for flags := range 256 {
		head := "\x1f\x8b\x08" + number(flags, 1) + "\xfc\xfd\xfe\xff\x06\x07"
		want := api.Member{Text: flags&1 != 0, Checked: flags&2 != 0, Time: 0xfffefdfc, Hint: 6, System: 7, Data: []byte("a")}
		if flags&4 != 0 {
			head += "\x04\x00\x00y\x00z"
			want.Extra = "\x00y\x00z"
		}
		if flags&8 != 0 {
			head += "\xff\x1fna\x00"
			want.Name = "\xff\x1fna"
		}
		if flags&16 != 0 {
			head += "note\x00"
			want.Note = "note"
		}
		if flags&2 != 0 {
			head = summed(head)
		}
		if flags >= 32 {
			noGzip(t, gzipped(head, "\x4b\x04\x00", "a"), 1, api.ErrWrapField)
			noGzip(t, head[:10], 1, api.ErrWrapField)
			continue
		}
		getGzip(t, gzipped(head, "\x4b\x04\x00", "a"), 1, want)
		getGzip(t, gzipped(head, "\x4b\x04\x00", "a")+ofA(), 2, want, api.Member{Data: []byte("a")})
	}
}

func TestGetGzipEmptyTexts(t *testing.T) { // P23.6: a flag may be set where nothing stands
	for flags, parts := range map[int]string{4: "\x00\x00", 8: "\x00", 16: "\x00", 24: "\x00\x00", 28: "\x00\x00\x00\x00"} {
		head := "\x1f\x8b\x08" + number(flags, 1) + "\x00\x00\x00\x00\x00\x00" + parts
		getGzip(t, gzipped(head, "\x4b\x04\x00", "a"), 1, api.Member{Data: []byte("a")})
		noGzip(t, head[:len(head)-1], 1, api.ErrWrapShort)
	}
}

func TestGetGzipLongTexts(t *testing.T) { // P23.6: of any length, each up to its own byte 0
	long := strings.Repeat("long ", 200000)
	extra := strings.Repeat("\x00", 65535)
	m := api.Member{Extra: extra, Name: long, Note: long + "er", Checked: true, Data: []byte("a")}
	head := summed("\x1f\x8b\x08\x1e\x00\x00\x00\x00\x00\x00\xff\xff" + extra + long + "\x00" + long + "er\x00")
	getGzip(t, gzipped(head, "\x4b\x04\x00", "a"), 1, m)
	noGzip(t, head[:10+65535], 1, api.ErrWrapShort)
	noGzip(t, head[:len(head)-3], 1, api.ErrWrapShort)
}

func TestGetGzipCutHeads(t *testing.T) { // P23.6: the bytes end at each place of a head
	head := fullHead()
	for n := 1; n < len(head); n++ {
		noGzip(t, head[:n], 9, api.ErrWrapShort)
		noGzip(t, ofA()+head[:n], 9, api.ErrWrapShort)
	}
	noGzip(t, head, 9, api.ErrInfEnd)
	noGzip(t, ofA()+head, 9, api.ErrInfEnd)
	getGzip(t, "", 0)
	getGzip(t, "", api.MaxCapacity)
	for flags := 1; flags < 32; flags++ { // where a part is missing, what stands behind it isn't taken for it
		head := "\x1f\x8b\x08" + number(flags, 1) + "\x00\x00\x00\x00\x00\x00"
		if flags > 1 {
			noGzip(t, head, 9, api.ErrWrapShort)
		}
		if flags&4 != 0 {
			noGzip(t, head+"\xff\xff"+strings.Repeat("\x00", 65534), 9, api.ErrWrapShort)
		}
	}
}

func TestGetGzipSigns(t *testing.T) { // P23.6: the three bytes with which a member begins
	a := ofA()
	for at := range 3 {
		for by := 1; by < 256; by++ {
			other := []byte(a)
			other[at] ^= byte(by)
			noGzip(t, string(other), 9, api.ErrWrapHead)
			noGzip(t, a+string(other), 9, api.ErrWrapHead)
			noGzip(t, string(other[:10]), 9, api.ErrWrapHead)
			noGzip(t, string(other[:9]), 9, api.ErrWrapShort)
		}
	}
}

func TestGetGzipHeadSum(t *testing.T) { // P23.6: each bit of the head's sum, and of what it stands for
	head := fullHead()
	for at := 4; at < len(head); at++ {
		if at == 10 || at == 11 || head[at] == 0 {
			continue // another number, or one 0 less: the parts are cut in another way
		}
		for bit := range 8 {
			other := []byte(head)
			other[at] ^= 1 << bit
			if other[at] == 0 {
				continue
			}
			noGzip(t, gzipped(string(other), "\x4b\x04\x00", "a"), 9, api.ErrWrapSum)
			noGzip(t, string(other)+"\x07", 9, api.ErrWrapSum)
			noGzip(t, string(other), 9, api.ErrWrapSum)
		}
	}
	other := "\x1f\x8b\x08\x02\x01\x00\x00\x00\x00\x00"
	noGzip(t, gzipped(other+"\x1d\x26", "\x4b\x04\x00", "a"), 9, api.ErrWrapSum)
	getGzip(t, gzipped(summed(other), "\x4b\x04\x00", "a"), 9, api.Member{Checked: true, Time: 1, Data: []byte("a")})
	second := summed("\x1f\x8b\x08\x03\x00\x00\x00\x00\x00\x00") // of the second member's head alone
	getGzip(t, ofA()+gzipped(second, "\x4b\x04\x00", "a"), 9, api.Member{Data: []byte("a")}, api.Member{Text: true, Checked: true, Data: []byte("a")})
}

func TestGetGzipTail(t *testing.T) { // P23.6: each bit of the sum and of the size
	a := ofA()
	for bit := range 64 {
		other := []byte(a)
		other[13+bit/8] ^= 1 << (bit % 8)
		want := api.ErrWrapSum
		if bit >= 32 {
			want = api.ErrWrapSize
		}
		noGzip(t, string(other), 9, want)
		noGzip(t, string(other)+"\x00", 9, want)
		noGzip(t, a+string(other)+a, 9, want)
		other[14] ^= 0x55
		noGzip(t, string(other), 9, api.ErrWrapSum)
		for n := 13; n < 21; n++ {
			noGzip(t, string(other[:n]), 9, api.ErrWrapShort)
		}
	}
	for left := range 64 { // the bits that are left in the packed text's last byte are not looked at
		getGzip(t, gzipped(plainHead, "\x4b\x04"+string([]byte{byte(left * 4)}), "a"), 1, api.Member{Data: []byte("a")})
	}
}

func TestGetGzipArguments(t *testing.T) { // P23.6: ErrArg is ahead of all else
	one := gzipped(plainHead, raw("a", true), "a")
	long := strings.Repeat(one, api.MaxPacked/len(one)+1)
	for _, limit := range []int{-1, 0, api.MaxCapacity, api.MaxCapacity + 1} {
		noGzip(t, long, limit, api.ErrArg)
		noGzip(t, long[:api.MaxPacked+1], limit, api.ErrArg)
	}
	for _, data := range []string{"", "\x00", "\x1f", plainHead, ofA(), ofA() + "\x00"} {
		for _, limit := range []int{-1, -1 << 63, api.MaxCapacity + 1, 1<<63 - 1} {
			noGzip(t, data, limit, api.ErrArg)
		}
	}
	noGzip(t, long[:api.MaxPacked], api.MaxCapacity, api.ErrWrapShort)
	noGzip(t, strings.Repeat("\x00", api.MaxPacked), 0, api.ErrWrapHead)
}

func TestGetGzipLimit(t *testing.T) { // P23.6: the limit is for all members together, and each is asked in its turn
	var data string
	var members []api.Member
	sum := 0
	for i := range 12 {
		plain := filler(int64(290+i), []int{0, 1, 100, 0, 70000, 3, 0}[i%7])
		m := api.Member{Name: "n", Data: []byte(plain)}
		one, _ := wrap.PutGzip(i%10, m)
		if plain != "" {
			noGzip(t, data+string(one)+"\x00", sum+len(plain)-1, api.ErrInfLimit)
			noGzip(t, data+string(one[:len(one)-8]), sum, api.ErrInfLimit)
		}
		noGzip(t, data+string(one)+"\x00", sum+len(plain), api.ErrWrapShort)
		data += string(one)
		members = append(members, m)
		sum += len(plain)
		for _, limit := range []int{sum, sum + 1, api.MaxCapacity} {
			getGzip(t, data, limit, members...)
		}
	}
}

func TestGetGzipFirst(t *testing.T) { // P23.6: the first error of any member is the answer
	a := ofA()
	wrong := map[string]api.Errno{
		plainHead + "\x07":                     api.ErrInfKind,
		"\x1f\x8b\x08\x40" + plainHead[4:]:     api.ErrWrapField,
		gzipped(plainHead, "\x4b\x04\x00", ""): api.ErrWrapSum,
		gzipped(plainHead, "\x03\x00", "")[:12] + "\x00\x00\x00\x00\x01\x00\x00\x00": api.ErrWrapSize,
		strings.Repeat("\x00", 10): api.ErrWrapHead,
	}
	for first, e := range wrong {
		noGzip(t, first, 9, e)
		noGzip(t, a+first, 9, e)
		noGzip(t, a+a+first, 9, e)
		for second := range wrong {
			if first[:3] == "\x1f\x8b\x08" && e != api.ErrInfKind {
				noGzip(t, a+first+second, 9, e)
			}
		}
	}
}
