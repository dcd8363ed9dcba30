package field_test

import (
	"bytes"
	"testing"

	"valise/api"
	"valise/field"
)

func TestExampleShort(t *testing.T) { // example 1
	c := field.NewCursor([]byte{1, 2, 3, 4, 5})
	if v := c.U16(); v != 0x0201 {
		t.Errorf("U16 = %x", v)
	}
	stands(t, c, 2, 3, api.OK)
	if v := c.U32(); v != 0 {
		t.Errorf("U32 = %x", v)
	}
	stands(t, c, 2, 3, api.ErrFieldShort)
	if v := c.U8(); v != 0 {
		t.Errorf("U8 = %x", v)
	}
	c.Seek(0)
	stands(t, c, 2, 3, api.ErrFieldShort)
}

func TestExampleText(t *testing.T) { // example 2
	c := field.NewCursor([]byte("abc"))
	if s := c.Text(2); s != "ab" {
		t.Errorf("Text(2) = %q", s)
	}
	if s := c.Text(-1); s != "" || c.Err() != api.ErrArg {
		t.Errorf("Text(-1) = %q, error %d", s, c.Err())
	}
	if s := c.Text(1); s != "" {
		t.Errorf("Text(1) = %q", s)
	}
}

func TestExampleEnd(t *testing.T) { // example 3
	c := field.NewCursor([]byte("abc"))
	c.Seek(3)
	if v := c.U8(); v != 0 || c.Err() != api.ErrFieldShort {
		t.Errorf("U8 = %d, error %d", v, c.Err())
	}
	c = field.NewCursor([]byte("abc"))
	c.Seek(4)
	stands(t, c, 0, 3, api.ErrArg)
	c = field.NewCursor([]byte("abc"))
	c.Skip(3)
	stands(t, c, 3, 0, api.OK)
	if s := c.Text(0); s != "" {
		t.Errorf("Text(0) = %q", s)
	}
	stands(t, c, 3, 0, api.OK)
}

func TestExampleBuffer(t *testing.T) { // examples 4 and 5
	b := field.NewBuffer(6)
	b.U32(1)
	b.U8(256)
	if b.Err() != api.ErrFieldWide || b.Len() != 4 || len(b.Take()) != 0 {
		t.Errorf("error %d, Len %d, Take % x", b.Err(), b.Len(), b.Take())
	}
	b = field.NewBuffer(6)
	b.U32(1)
	b.U16(0x5678)
	b.Text("")
	if b.Err() != api.OK {
		t.Errorf("error %d", b.Err())
	}
	b.Patch32(2, 7)
	if got := b.Take(); !bytes.Equal(got, []byte{1, 0, 7, 0, 0, 0}) {
		t.Errorf("Take = % x", got)
	}
	b.U8(0)
	if b.Err() != api.ErrFieldLimit || b.Len() != 6 {
		t.Errorf("error %d, Len %d", b.Err(), b.Len())
	}
}

func TestExampleOrder(t *testing.T) { // example 6
	for v, e := range map[int]api.Errno{0: api.ErrArg, -1: api.ErrArg} {
		b := filled(t, 4, "abcd")
		b.Patch32(1, v)
		holds(t, b, "abcd", e)
	}
	b := filled(t, 4, "abcd")
	b.U8(256)
	holds(t, b, "abcd", api.ErrFieldWide)
}

func TestExampleSum(t *testing.T) { // example 7
	for data, want := range map[string]uint32{
		"123456789": 0xCBF43926, "a": 0xE8B7BE43, "aa": 0x078A19D7, "\x00": 0xD202EF8D, "\xFF\xFF\xFF\xFF": 0xFFFFFFFF,
	} {
		if got := field.Sum([]byte(data)); got != want {
			t.Errorf("Sum(%q) = %08X, want %08X", data, got, want)
		}
	}
}

func TestExampleJoin(t *testing.T) { // example 8
	if got := joins(t, 0xE8B7BE43, 0xE8B7BE43, 1); got != 0x078A19D7 {
		t.Errorf("Join = %08X", got)
	}
	if got := joins(t, 1, 2, 0); got != 3 {
		t.Errorf("Join(1, 2, 0) = %d", got)
	}
	if got, e := field.Join(1, 2, -1); got != 0 || e != api.ErrArg {
		t.Errorf("Join(1, 2, -1) = %d, error %d", got, e)
	}
}

func TestExampleGather(t *testing.T) { // example 9
	zeros := make([]byte, 1025)
	for _, x := range []struct {
		data  []byte
		chunk int
		want  uint32
		e     api.Errno
	}{
		{[]byte("123456789"), 4, 0xCBF43926, api.OK},
		{[]byte("123456789"), 0, 0, api.ErrArg},
		{zeros, 1, 0, api.ErrArg},
		{zeros[:1024], 1, field.Sum(zeros[:1024]), api.OK},
		{nil, 1, 0, api.OK},
	} {
		if got, e := field.Gather(x.data, x.chunk); got != x.want || e != x.e {
			t.Errorf("Gather(%d bytes, %d) = %08X, error %d", len(x.data), x.chunk, got, e)
		}
	}
}
