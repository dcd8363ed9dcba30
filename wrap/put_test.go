package wrap_test

import (
	"math"
	"strings"
	"testing"

	"valise/api"
	"valise/wrap"
)

func TestPutGzipHeads(t *testing.T) { // P23.5: each part of a head, by itself and with all others
	for flags := range 32 {
		m := api.Member{Time: 0x01020304, Hint: 6, System: 7, Data: []byte("a")}
		head := "\x1f\x8b\x08" + number(flags, 1) + "\x04\x03\x02\x01\x06\x07"
		m.Text, m.Checked = flags&1 != 0, flags&2 != 0
		if flags&4 != 0 {
			m.Extra = "xyz"
			head += "\x03\x00xyz"
		}
		if flags&8 != 0 {
			m.Name = "na"
			head += "na\x00"
		}
		if flags&16 != 0 {
			m.Note = "note"
			head += "note\x00"
		}
		if flags&2 != 0 {
			head = summed(head)
		}
		putGzip(t, gzipped(head, "\x4b\x04\x00", "a"), 6, m)
	}
	putGzip(t, gzipped(fullHead(), packed("some text", 9), "some text"), 9, full("some text"))
}

func TestPutGzipLevels(t *testing.T) { // P23.5
	for _, plain := range []string{"", "a", "aaaa", filler(270, 3000), strings.Repeat("a text again, ", 7000)} {
		for level := range 10 {
			putGzip(t, gzipped(plainHead, packed(plain, level), plain), level, api.Member{Data: []byte(plain)})
		}
		for _, level := range []int{-1, 10, 1 << 40, -1 << 63} {
			refuseGzip(t, api.ErrDeflateLevel, level, api.Member{Data: []byte(plain)})
		}
	}
	for level := range 10 {
		putGzip(t, "", level)
	}
	for _, level := range []int{-1, 10, 1 << 40, -1 << 63} {
		refuseGzip(t, api.ErrDeflateLevel, level)
	}
}

func TestPutGzipFields(t *testing.T) { // P23.5: each field's edges
	putGzip(t, gzipped("\x1f\x8b\x08\x00\xff\xff\xff\xff\xff\xff", "\x03\x00", ""), 1, api.Member{Time: api.MaxField, Hint: 255, System: 255})
	longest := strings.Repeat("x", 65535)
	putGzip(t, gzipped("\x1f\x8b\x08\x04\x00\x00\x00\x00\x00\x00\xff\xff"+longest, "\x03\x00", ""), 1, api.Member{Extra: longest})
	putGzip(t, gzipped("\x1f\x8b\x08\x18\x00\x00\x00\x00\x00\x00"+longest+longest+"\x00"+longest+"xx\x00", "\x03\x00", ""), 1, api.Member{Name: longest + longest, Note: longest + "xx"})
	putGzip(t, gzipped("\x1f\x8b\x08\x04\x00\x00\x00\x00\x00\x00\x02\x00\x00\x00", "\x03\x00", ""), 1, api.Member{Extra: "\x00\x00"})
	for _, m := range unfit() {
		refuseGzip(t, api.ErrWrapField, 6, m)
		refuseGzip(t, api.ErrWrapField, 0, full("a"), full("b"), m, full("c"))
		m.Checked = true
		refuseGzip(t, api.ErrWrapField, 6, m)
	}
}

// unfit has members each of which has one field that may not be.
func unfit() []api.Member {
	members := []api.Member{
		{Extra: strings.Repeat("x", 65536)}, {Extra: strings.Repeat("x", 65536+5)}, {Extra: strings.Repeat("x", 1<<20)},
		{Name: "\x00"}, {Name: "\x00a"}, {Name: "a\x00a"}, {Name: "a\x00"}, {Note: "\x00"}, {Note: "\x00a"}, {Note: "a\x00a"}, {Note: "a\x00"}, {Name: "a", Note: "b\x00"},
	}
	for _, v := range []int{-1, -256, api.MaxField + 1, api.MaxField + 5, 1 << 40, math.MaxInt, math.MinInt} {
		members = append(members, api.Member{Time: v})
	}
	for _, v := range []int{-1, -256, 256, 257, 65536, 1 << 32, math.MaxInt, math.MinInt} {
		members = append(members, api.Member{Hint: v}, api.Member{System: v})
	}
	return members
}

func TestPutGzipOrder(t *testing.T) { // P23.5: ErrArg, then the level, then the fields
	many := make([]api.Member, api.MaxEntries+1)
	long := api.Member{Data: make([]byte, api.MaxCapacity+1)}
	for _, m := range unfit() {
		many[5] = m
		for _, level := range []int{-1, 6, 10} {
			refuseGzip(t, api.ErrArg, level, many...)
			refuseGzip(t, api.ErrArg, level, m, long)
			refuseGzip(t, api.ErrArg, level, long, m)
		}
		refuseGzip(t, api.ErrDeflateLevel, -1, m)
		refuseGzip(t, api.ErrDeflateLevel, 10, m)
	}
	refuseGzip(t, api.ErrArg, 10, many...)
	refuseGzip(t, api.ErrArg, 10, long)
	refuseGzip(t, api.ErrArg, 6, long)
}

func TestPutGzipMany(t *testing.T) { // P23.5: as many members as may be, and one more
	many := make([]api.Member, api.MaxEntries+1)
	putGzip(t, strings.Repeat(gzipped(plainHead, "\x03\x00", ""), api.MaxEntries), 1, many[1:]...)
	refuseGzip(t, api.ErrArg, 1, many...)
}

func TestPutGzipLong(t *testing.T) { // P23.5: Data, Extra, Name and Note have together as many bytes as may be, and one more
	const quarter = api.MaxCapacity / 4
	data, text := make([]byte, quarter), strings.Repeat("x", quarter)
	extra := text[:65535]
	most := []api.Member{{Data: data, Extra: extra}, {Name: text}, {Note: text, Data: data[65535:]}}
	out, e := wrap.PutGzip(0, most...)
	if e != api.OK {
		t.Fatalf("of %d bytes: %d", api.MaxCapacity, e)
	}
	getGzip(t, string(out), 2*quarter-65535, most...)
	one := []api.Member{{Data: data[:1]}, {Extra: "x"}, {Name: "x"}, {Note: "x"}}
	for i := range one {
		refuseGzip(t, api.ErrArg, 0, append(most[:3:3], one[i])...)
		refuseGzip(t, api.ErrArg, 0, append(one[i:i+1:i+1], most...)...)
	}
	alone := api.Member{Name: text + text + text + text}
	putGzip(t, gzipped("\x1f\x8b\x08\x08\x00\x00\x00\x00\x00\x00"+alone.Name+"\x00", "\x03\x00", ""), 1, alone)
	for _, m := range []api.Member{{Data: make([]byte, api.MaxCapacity+1)}, {Name: alone.Name + "x"}, {Note: alone.Name + "x"}, {Extra: alone.Name + "x"}} {
		refuseGzip(t, api.ErrArg, 1, m)
	}
	all := make([]api.Member, 1000) // together far too many, each of them not
	for i := range all {
		all[i] = api.Member{Data: data, Name: text}
	}
	refuseGzip(t, api.ErrArg, 1, all...)
}
