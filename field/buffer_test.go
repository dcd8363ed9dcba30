package field_test

import (
	"math"
	"slices"
	"strings"
	"testing"

	"valise/api"
	"valise/field"
)

// holds checks all that a buffer tells.
func holds(t *testing.T, b *field.Buffer, want string, e api.Errno) {
	t.Helper()
	if b.Err() != e || b.Len() != len(want) {
		t.Errorf("Len %d, error %d, want %d (%.40q), %d", b.Len(), b.Err(), len(want), want, e)
	}
	if e != api.OK {
		want = ""
	}
	if got := string(b.Take()); got != want {
		t.Errorf("Take %.40q, want %.40q", got, want)
	}
}

// filled is a buffer of that limit that holds s.
func filled(t *testing.T, limit int, s string) *field.Buffer {
	t.Helper()
	b := field.NewBuffer(limit)
	b.Text(s)
	holds(t, b, s, api.OK)
	return b
}

// puts are the calls of a buffer that may change it.
func puts(b *field.Buffer) []func() {
	return []func(){
		func() { b.U8(1) }, func() { b.U8(-1) }, func() { b.U8(256) },
		func() { b.U16(1) }, func() { b.U16(-1) }, func() { b.U16(65536) },
		func() { b.U32(1) }, func() { b.U32(-1) }, func() { b.U32(4294967296) },
		func() { b.Text("") }, func() { b.Text("z") }, func() { b.Text(strings.Repeat("z", 99)) },
		func() { b.Patch32(0, 1) }, func() { b.Patch32(0, -1) }, func() { b.Patch32(-1, 1) }, func() { b.Patch32(99, 1) },
	}
}

func TestNewBuffer(t *testing.T) { // P2.6
	for _, limit := range []int{0, 1, 6, api.MaxCapacity, math.MaxInt - 1, math.MaxInt} {
		holds(t, field.NewBuffer(limit), "", api.OK)
	}
	for _, limit := range []int{-1, -2, math.MinInt} {
		b := field.NewBuffer(limit)
		holds(t, b, "", api.ErrArg)
		for _, put := range puts(b) {
			put()
			holds(t, b, "", api.ErrArg)
		}
	}
}

func TestNumbersPut(t *testing.T) { // P2.7
	for _, x := range []struct {
		bytes int
		v     int
		want  string
	}{
		{1, 0, "\x00"}, {1, 1, "\x01"}, {1, 0x80, "\x80"}, {1, 255, "\xFF"},
		{2, 0, "\x00\x00"}, {2, 0x1234, "\x34\x12"}, {2, 256, "\x00\x01"}, {2, 65535, "\xFF\xFF"},
		{4, 0, "\x00\x00\x00\x00"}, {4, 0x04030201, "\x01\x02\x03\x04"}, {4, 65536, "\x00\x00\x01\x00"},
		{4, 1 << 31, "\x00\x00\x00\x80"}, {4, 4294967295, "\xFF\xFF\xFF\xFF"},
	} {
		for _, more := range []int{0, 1, math.MaxInt - 6} { // a limit that is just met, and others
			b := filled(t, 2+x.bytes+more, "ab")
			put(b, x.bytes, x.v)
			holds(t, b, "ab"+x.want, api.OK)
		}
		for less := 1; less <= x.bytes; less++ {
			b := filled(t, 2+x.bytes-less, "ab")
			put(b, x.bytes, x.v)
			holds(t, b, "ab", api.ErrFieldLimit)
		}
	}
}

// put appends v as so many bytes.
func put(b *field.Buffer, bytes, v int) {
	switch bytes {
	case 1:
		b.U8(v)
	case 2:
		b.U16(v)
	case 4:
		b.U32(v)
	}
}

func TestNumbersWide(t *testing.T) { // P2.7: what doesn't fit, and that it is ahead of the limit
	for _, bytes := range []int{1, 2, 4} {
		for _, v := range []int{math.MinInt, -1 << 32, -256, -1, 1 << (8 * bytes), 1<<(8*bytes) + 1, 1 << 33, 1 << 40, math.MaxInt} {
			for _, limit := range []int{2, 3, 5, 6, 99} {
				b := filled(t, limit, "ab")
				put(b, bytes, v)
				holds(t, b, "ab", api.ErrFieldWide)
			}
		}
	}
}

func TestTextsPut(t *testing.T) { // P2.8
	for _, x := range []struct {
		limit int
		texts []string
		want  string
		e     api.Errno
	}{
		{0, []string{"", ""}, "", api.OK},
		{0, []string{"a"}, "", api.ErrFieldLimit},
		{3, []string{"abc", ""}, "abc", api.OK},
		{3, []string{"abc", "", "d"}, "abc", api.ErrFieldLimit},
		{3, []string{"abcd"}, "", api.ErrFieldLimit},
		{3, []string{"ab", "cd"}, "ab", api.ErrFieldLimit},
		{4, []string{"ab", "cd"}, "abcd", api.OK},
		{9, []string{"\x00\xff", "\xc3"}, "\x00\xff\xc3", api.OK},
		{math.MaxInt, []string{"ab", "", "c"}, "abc", api.OK},
	} {
		b := field.NewBuffer(x.limit)
		for _, s := range x.texts {
			b.Text(s)
		}
		holds(t, b, x.want, x.e)
	}
}

func TestBufferLong(t *testing.T) { // no bound of its own on a text
	long := strings.Repeat("0123456789abcdef", api.MaxPacked/16) + "x"
	b := filled(t, len(long)+1, long)
	b.U8('y')
	holds(t, b, long+"y", api.OK)
	b.U8('z')
	holds(t, b, long+"y", api.ErrFieldLimit)
}

func TestPatch32(t *testing.T) { // P2.9
	for _, held := range []string{"", "abc", "abcd", "abcdefg"} {
		for _, at := range []int{math.MinInt, -5, -4, -1, 0, 1, 2, 3, 4, 7, math.MaxInt - 4, math.MaxInt - 3, math.MaxInt} {
			for _, v := range []int{math.MinInt, -1, 0, 0x04030201, 1 << 31, 4294967295, 4294967296, math.MaxInt} {
				b := filled(t, 9, held)
				b.Patch32(at, v)
				switch {
				case at < 0 || at > len(held)-4:
					holds(t, b, held, api.ErrArg)
				case v < 0 || v > api.MaxField:
					holds(t, b, held, api.ErrFieldWide)
				default:
					four := string([]byte{byte(v), byte(v >> 8), byte(v >> 16), byte(v >> 24)})
					holds(t, b, held[:at]+four+held[at+4:], api.OK)
				}
			}
		}
	}
}

func TestPatchThenPut(t *testing.T) { // P2.9, P2.10: the next field comes behind all bytes, not behind the patch
	b := filled(t, 8, "abcdef")
	one := b.Take()
	b.Patch32(1, 0x31323334)
	b.U16(0x3837)
	holds(t, b, "a4321f78", api.OK)
	if string(one) != "abcdef" {
		t.Errorf("what was taken ahead of a patch became %q", one)
	}
}

func TestBufferErrorStands(t *testing.T) { // P2.10
	wrongs := []struct {
		name string
		do   func(*field.Buffer)
		e    api.Errno
	}{
		{"a wide U8", func(b *field.Buffer) { b.U8(256) }, api.ErrFieldWide},
		{"a wide U16", func(b *field.Buffer) { b.U16(-1) }, api.ErrFieldWide},
		{"a wide U32", func(b *field.Buffer) { b.U32(1 << 32) }, api.ErrFieldWide},
		{"a U32 too many", func(b *field.Buffer) { b.U32(0) }, api.ErrFieldLimit},
		{"a U16 too many", func(b *field.Buffer) { b.U8(0); b.U16(0) }, api.ErrFieldLimit},
		{"a U8 too many", func(b *field.Buffer) { b.U16(0); b.U8(0) }, api.ErrFieldLimit},
		{"a long text", func(b *field.Buffer) { b.Text("xyz") }, api.ErrFieldLimit},
		{"a patch far out", func(b *field.Buffer) { b.Patch32(3, 0) }, api.ErrArg},
		{"a patch below 0", func(b *field.Buffer) { b.Patch32(-1, 0) }, api.ErrArg},
		{"a wide patch", func(b *field.Buffer) { b.Patch32(0, -1) }, api.ErrFieldWide},
	}
	for _, w := range wrongs {
		b := filled(t, 8, "abcdef")
		w.do(b)
		held := ("abcdef\x00\x00")[:b.Len()]
		for range 2 {
			for _, put := range puts(b) {
				put()
				if b.Err() != w.e {
					t.Fatalf("%s: the error became %d", w.name, b.Err())
				}
				holds(t, b, held, w.e)
			}
		}
	}
}

func TestTake(t *testing.T) { // P2.10, P0.3
	b := field.NewBuffer(99)
	if got := b.Take(); len(got) != 0 {
		t.Errorf("Take of an empty buffer: %q", got)
	}
	var taken [][]byte
	whole := "abcdefghijklmnopqrst"
	for i := range whole {
		b.U8(int(whole[i]))
		got := b.Take()
		if string(got) != whole[:i+1] || !slices.Equal(got, b.Take()) {
			t.Errorf("Take behind %d bytes: %q", i+1, got)
		}
		taken = append(taken, got)
	}
	for _, got := range taken { // the room beyond a list's end too
		clear(got[:cap(got)])
	}
	holds(t, b, whole, api.OK)
	first := b.Take()
	_ = append(first, "xxxx"...)
	b.Text("uv")
	holds(t, b, whole+"uv", api.OK)
	if string(first) != whole {
		t.Errorf("what was taken before became %q", first)
	}
}

func TestNilBuffer(t *testing.T) { // P2.16, P0.6
	var b *field.Buffer
	holds(t, b, "", api.ErrArg)
	for _, put := range puts(b) {
		put()
		holds(t, b, "", api.ErrArg)
	}
}

func TestBareBuffer(t *testing.T) { // P0.1: one that NewBuffer has not made
	var b field.Buffer
	holds(t, &b, "", api.OK)
	b.U8(0)
	holds(t, &b, "", api.ErrFieldLimit)
}
