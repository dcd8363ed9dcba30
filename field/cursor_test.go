package field_test

import (
	"bytes"
	"math"
	"slices"
	"testing"

	"valise/api"
	"valise/field"
)

// stands checks all that a cursor tells.
func stands(t *testing.T, c *field.Cursor, at, left int, e api.Errno) {
	t.Helper()
	if c.At() != at || c.Left() != left || c.Err() != e {
		t.Errorf("At %d, Left %d, error %d, want %d, %d, %d", c.At(), c.Left(), c.Err(), at, left, e)
	}
}

// reads are the calls of a cursor that may move it, with arguments for which nothing is wrong at the place 0 of four bytes or more.
func reads(c *field.Cursor) map[string]func() any {
	return map[string]func() any{
		"U8":        func() any { return c.U8() },
		"U16":       func() any { return c.U16() },
		"U32":       func() any { return c.U32() },
		"Text":      func() any { return c.Text(1) },
		"Text(0)":   func() any { return c.Text(0) },
		"Text(-1)":  func() any { return c.Text(-1) },
		"Text(99)":  func() any { return c.Text(99) },
		"Skip":      func() any { c.Skip(1); return 0 },
		"Skip(-1)":  func() any { c.Skip(-1); return 0 },
		"Skip(99)":  func() any { c.Skip(99); return 0 },
		"Seek(0)":   func() any { c.Seek(0); return 0 },
		"Seek(2)":   func() any { c.Seek(2); return 0 },
		"Seek(-1)":  func() any { c.Seek(-1); return 0 },
		"Seek(999)": func() any { c.Seek(999); return 0 },
	}
}

func TestNewCursor(t *testing.T) { // P2.1, P0.2, P0.3
	for _, data := range [][]byte{nil, {}, {7}, []byte("abcdef"), make([]byte, 1<<16)} {
		stands(t, field.NewCursor(data), 0, len(data), api.OK)
	}
	room := []byte("abcdef")
	c := field.NewCursor(room[:3])
	copy(room, "xyzuvw")
	if s := c.Text(3); s != "abc" {
		t.Errorf("a cursor over a list that was changed afterwards: %q", s)
	}
	stands(t, c, 3, 0, api.OK)
	if !bytes.Equal(room, []byte("xyzuvw")) {
		t.Errorf("reading changed the list that was handed in: %q", room)
	}
}

func TestCursorLong(t *testing.T) { // no bound of its own on a list
	data := make([]byte, api.MaxPacked+5)
	data[api.MaxPacked] = 9
	c := field.NewCursor(data)
	c.Skip(api.MaxPacked)
	if v := c.U8(); v != 9 {
		t.Errorf("U8 far out: %d", v)
	}
	stands(t, c, api.MaxPacked+1, 4, api.OK)
	c.Seek(0)
	if s := c.Text(len(data)); s != string(data) {
		t.Error("Text of the whole is another")
	}
}

func TestNumbersRead(t *testing.T) { // P2.2
	for _, x := range []struct {
		bytes        string
		u8, u16, u32 int
	}{
		{"\x00\x00\x00\x00", 0, 0, 0},
		{"\x34\x12\x00\x00", 0x34, 0x1234, 0x1234},
		{"\xFF\xFF\xFF\xFF", 255, 65535, 4294967295},
		{"\x01\x02\x03\x04", 1, 0x0201, 0x04030201},
		{"\x80\x80\x80\x80", 0x80, 0x8080, 0x80808080},
		{"\x00\x00\x00\x80", 0, 0, 0x80000000},
		{"\x00\xFF\x00\xFF", 0, 0xFF00, 0xFF00FF00},
	} {
		for ahead := range 3 {
			c := field.NewCursor([]byte("--"[:ahead] + x.bytes))
			c.Seek(ahead)
			v := c.U8()
			stands(t, c, ahead+1, 3, api.OK)
			c.Seek(ahead)
			w := c.U16()
			stands(t, c, ahead+2, 2, api.OK)
			c.Seek(ahead)
			z := c.U32()
			stands(t, c, ahead+4, 0, api.OK)
			if v != x.u8 || w != x.u16 || z != x.u32 {
				t.Errorf("% x behind %d bytes: %x, %x, %x", x.bytes, ahead, v, w, z)
			}
		}
	}
}

func TestNumbersShort(t *testing.T) { // P2.2: fewer bytes than the number has
	for n, read := range map[int]func(*field.Cursor) int{1: (*field.Cursor).U8, 2: (*field.Cursor).U16, 4: (*field.Cursor).U32} {
		for left := range n {
			c := field.NewCursor([]byte("\x11\x22\x33\x44\x55")[:2+left])
			c.Seek(2)
			if v := read(c); v != 0 {
				t.Errorf("%d bytes of %d: %d", left, n, v)
			}
			stands(t, c, 2, left, api.ErrFieldShort)
		}
	}
}

func TestTextsRead(t *testing.T) { // P2.3
	whole := "a\x00\xff\xfe\xc3bc"
	for at := range len(whole) + 1 {
		for _, n := range []int{math.MinInt, -2, -1, 0, 1, 2, 3, 6, 7, 8, math.MaxInt - 1, math.MaxInt} {
			want, e, to := "", api.OK, at
			switch {
			case n < 0:
				e = api.ErrArg
			case n > len(whole)-at:
				e = api.ErrFieldShort
			default:
				want, to = whole[at:at+n], at+n
			}
			c, d := field.NewCursor([]byte(whole)), field.NewCursor([]byte(whole))
			c.Seek(at)
			d.Seek(at)
			if s := c.Text(n); s != want {
				t.Errorf("Text(%d) at %d: %q, want %q", n, at, s, want)
			}
			d.Skip(n)
			stands(t, c, to, len(whole)-to, e)
			stands(t, d, to, len(whole)-to, e)
		}
	}
}

func TestTextStays(t *testing.T) { // P0.3: a text that was told, and the bytes that it came from
	data := []byte("abcd")
	c := field.NewCursor(data)
	s := c.Text(4)
	copy(data, "xxxx")
	c.Seek(0)
	c.U32()
	if s != "abcd" {
		t.Errorf("a text that was told became %q", s)
	}
}

func TestSeek(t *testing.T) { // P2.4
	for _, from := range []int{0, 2, 3} {
		for _, at := range []int{math.MinInt, -1, 0, 1, 2, 3, 4, 5, math.MaxInt} {
			c := field.NewCursor([]byte("abc"))
			c.Seek(from)
			c.Seek(at)
			if at < 0 || at > 3 {
				stands(t, c, from, 3-from, api.ErrArg)
			} else {
				stands(t, c, at, 3-at, api.OK)
			}
		}
	}
	c := field.NewCursor(nil)
	c.Seek(0)
	stands(t, c, 0, 0, api.OK)
	c.Seek(1)
	stands(t, c, 0, 0, api.ErrArg)
}

func TestCursorErrorStands(t *testing.T) { // P2.5
	wrongs := map[string]struct {
		do func(*field.Cursor)
		e  api.Errno
	}{
		"U8 at the end":   {func(c *field.Cursor) { c.Seek(6); c.U8(); c.Err() }, api.ErrFieldShort},
		"U16 at the end":  {func(c *field.Cursor) { c.Seek(5); c.U16() }, api.ErrFieldShort},
		"U32 at the end":  {func(c *field.Cursor) { c.Seek(3); c.U32() }, api.ErrFieldShort},
		"a long Text":     {func(c *field.Cursor) { c.Skip(1); c.Text(6) }, api.ErrFieldShort},
		"a long Skip":     {func(c *field.Cursor) { c.Skip(1); c.Skip(6) }, api.ErrFieldShort},
		"a Text below 0":  {func(c *field.Cursor) { c.Skip(1); c.Text(-1) }, api.ErrArg},
		"a Skip below 0":  {func(c *field.Cursor) { c.Skip(1); c.Skip(-1) }, api.ErrArg},
		"a Seek below 0":  {func(c *field.Cursor) { c.Skip(1); c.Seek(-1) }, api.ErrArg},
		"a Seek too far":  {func(c *field.Cursor) { c.Skip(1); c.Seek(7) }, api.ErrArg},
		"a Seek at once":  {func(c *field.Cursor) { c.Seek(7) }, api.ErrArg},
		"a Text at once":  {func(c *field.Cursor) { c.Text(7) }, api.ErrFieldShort},
		"U32 of 2 at end": {func(c *field.Cursor) { c.Seek(4); c.U32() }, api.ErrFieldShort},
	}
	for name, w := range wrongs {
		c := field.NewCursor([]byte("\x11\x22\x33\x44\x55\x66"))
		w.do(c)
		at, left := c.At(), c.Left()
		for range 2 {
			for call, read := range reads(c) {
				if v := read(); v != 0 && v != "" {
					t.Errorf("%s, then %s: %v", name, call, v)
				}
				stands(t, c, at, left, w.e)
			}
		}
		if at+left != 6 {
			t.Errorf("%s: At %d and Left %d of 6 bytes", name, at, left)
		}
	}
}

func TestNilCursor(t *testing.T) { // P2.16, P0.6
	var c *field.Cursor
	for call, read := range reads(c) {
		if v := read(); v != 0 && v != "" {
			t.Errorf("%s of a nil cursor: %v", call, v)
		}
		stands(t, c, 0, 0, api.ErrArg)
	}
}

func TestBareCursor(t *testing.T) { // P0.1: one that NewCursor has not made
	var c field.Cursor
	stands(t, &c, 0, 0, api.OK)
	if c.U8() != 0 {
		t.Error("U8 of a bare cursor")
	}
	stands(t, &c, 0, 0, api.ErrFieldShort)
}

func TestCursorsApart(t *testing.T) { // P0.7
	data := []byte("\x01\x02\x03\x04")
	a, b := field.NewCursor(data), field.NewCursor(data)
	a.Skip(9)
	got := []int{b.U8(), b.U8(), b.U8(), b.U8()}
	if !slices.Equal(got, []int{1, 2, 3, 4}) || b.Err() != api.OK {
		t.Errorf("beside another cursor's error: %v, %d", got, b.Err())
	}
	stands(t, a, 0, 4, api.ErrFieldShort)
}
