package extent_test

import (
	"strings"
	"testing"

	"valise/api"
	"valise/extent"
	"valise/record"
)

// local is the bytes of a local header.
func local(l api.Local) string {
	b, e := record.PutLocal(l)
	if e != api.OK {
		panic(e)
	}
	return string(b)
}

// a is a record of two stored bytes.
func a() api.Central {
	return api.Central{Made: 20, Local: api.Local{Need: 10, Date: 33, Sum: 7, Packed: 2, Size: 2, Name: "a"}}
}

// finds asks Find for an entry.
func finds(t *testing.T, c api.Central, ahead string, want api.Entry) {
	t.Helper()
	if x, ok := extent.In([]byte(ahead)).Find(c); x != want || !ok {
		t.Errorf("Find(%v, %q) = %v, %v, want %v", c, ahead, x, ok, want)
	}
}

// misses asks Find for none.
func misses(t *testing.T, c api.Central, ahead string) {
	t.Helper()
	if x, ok := extent.In([]byte(ahead)).Find(c); x != (api.Entry{}) || ok {
		t.Errorf("Find(%v, %.100q) = %v, %v", c, ahead, x, ok)
	}
}

func TestCore(t *testing.T) {
	if !extent.RightCore(a()) {
		t.Error("a right core is refused")
	}
	for what, change := range map[string]func(c *api.Central){
		"disk":   func(c *api.Central) { c.Disk = 1 },
		"flags":  func(c *api.Central) { c.Flags = 1 },
		"need":   func(c *api.Central) { c.Need = 45 },
		"method": func(c *api.Central) { c.Method = 9 },
		"size":   func(c *api.Central) { c.Size = 3 },
		"extra":  func(c *api.Central) { c.Extra = "x" },
	} {
		c := a()
		change(&c)
		if extent.RightCore(c) {
			t.Errorf("%s: a wrong core is taken", what)
		}
	}
	for flags, late := range map[int]bool{0: false, 8: true, 2 | 4 | 2048: false, 65535: true} {
		if extent.IsLate(api.Local{Flags: flags}) != late {
			t.Errorf("IsLate of the flags %d", flags)
		}
	}
}

func TestFind(t *testing.T) {
	c := a()
	text := local(c.Local) + "hi"
	want := api.Entry{Central: c, Data: 31, To: 33}
	finds(t, c, text, want)
	finds(t, c, text+"more", want)
	misses(t, c, text[:32])
	c.At = 5
	misses(t, c, text)
	misses(t, c, text[:4])
	want.Central, want.From, want.Data, want.To = c, 5, 36, 38
	finds(t, c, "01234"+text, want)
	c.Extra = "of the directory"
	want.Central = c
	finds(t, c, "01234"+text, want)
	l := a().Local
	l.Extra = "\x01\x00\x01\x00x"
	want = api.Entry{Central: a(), LocalExtra: l.Extra, Data: 36, To: 38}
	finds(t, a(), local(l)+"hi", want)
	l.Extra = "x"
	misses(t, a(), local(l)+"hi")
	l = a().Local
	l.Clock++
	misses(t, a(), local(l)+"hi")
}

func TestFindLate(t *testing.T) {
	c := a()
	c.Flags = 8
	l := c.Local
	l.Sum, l.Packed, l.Size = 0, 0, 0
	b, _ := record.PutDescriptor(c.Local, true)
	for _, header := range []string{local(c.Local), local(l)} {
		finds(t, c, header+"hi"+string(b), api.Entry{Central: c, Data: 31, To: 49})
		finds(t, c, header+"hi"+string(b[4:]), api.Entry{Central: c, Data: 31, To: 45})
		misses(t, c, header+"hi"+string(b[:15]))
		misses(t, c, header+"hi")
		misses(t, c, header+"h")
	}
	c.Flags = 0
	misses(t, c, local(l)+"hi"+string(b))
}

func TestFindAgain(t *testing.T) { // what was said of a local header holds for each record that leads there, and for no other header
	l := a().Local
	l.Extra = "x"
	bad := local(l) + "hi"
	f := extent.In([]byte(bad + local(a().Local) + "hi"))
	for range 3 {
		if _, ok := f.Find(a()); ok {
			t.Error("an extra text that may not be is taken")
		}
		c := a()
		c.At = len(bad)
		if x, ok := f.Find(c); !ok || x.From != len(bad) || x.LocalExtra != "" {
			t.Errorf("Find behind it = %v, %v", x, ok)
		}
	}
	l.Extra = strings.Repeat("\x00", 8)
	f = extent.In([]byte(local(l) + "hi"))
	for range 3 {
		if x, ok := f.Find(a()); !ok || x.LocalExtra != l.Extra {
			t.Errorf("Find = %v, %v", x, ok)
		}
	}
}
