package mend_test

import (
	"strings"
	"testing"

	"valise/api"
	"valise/record"
)

func TestAuditCore(t *testing.T) { // P26.1, 6: ErrLayEntry, where the record stands; its other looks go on
	wrong := map[string]func(c *api.Central){
		"need 0":       func(c *api.Central) { c.Need = 0 },
		"need 45":      func(c *api.Central) { c.Need = 45 },
		"flag 1":       func(c *api.Central) { c.Flags = 1 },
		"flag 64":      func(c *api.Central) { c.Flags |= 64 },
		"method 1":     func(c *api.Central) { c.Method = 1 },
		"method 12":    func(c *api.Central) { c.Method = 12 },
		"unlike sizes": func(c *api.Central) { c.Size++ },
		"extra":        func(c *api.Central) { c.Extra = "abc" },
	}
	for what, change := range wrong {
		x := altered(stored("a", "hi"), change)
		x.local.Extra = ""
		audits(t, laid(x), at(133, 33, "a"))
		audits(t, laid(x, stored("b", "bye")), at(133, 67, "a"))
		audits(t, laid(told(stored("a", "hi"), func(c *api.Central) { change(c); c.Extra, c.Method = "abc", 1 })), at(133, 33, "a"), at(136, 0, "a"))
		if t.Failed() {
			t.Fatal(what)
		}
	}
	audits(t, laid(told(stored("a", "hi"), func(c *api.Central) { c.Disk = 1 })), at(133, 33, "a"))
	audits(t, laid(told(stored("a", "hi"), func(c *api.Central) { c.Disk = 65535 })), at(133, 33, "a"))
	for _, flags := range []int{2, 4, 6, 2048, 2054} {
		audits(t, laid(altered(stored("a", "hi"), func(c *api.Central) { c.Flags, c.Need = flags, 20 })))
	}
	audits(t, laid(told(stored("a", "hi"), func(c *api.Central) { c.Made, c.Internal, c.External, c.Comment = 7, 8, 9, "any" })))
}

func TestAuditNames(t *testing.T) { // P26.1, 6: ErrLayName
	for _, name := range []string{"", "/", "..", "a//b", "a\\b", "\xff", "a\x00"} {
		audits(t, laid(stored(name, "hi")), at(134, 30+len(name)+2, name))
	}
	for _, name := range []string{"a/", "a/b", "\xc3\xa9", strings.Repeat("n", 65535)} {
		audits(t, laid(stored(name, "hi")))
	}
}

func TestAuditTwice(t *testing.T) { // P26.1, 6: ErrLayTwice: of each record but the first one of its name, whatever that one is
	a, b := stored("a", "hi"), stored("b", "bye")
	audits(t, laid(a, b, a), at(135, 194, "a"))
	audits(t, laid(a, a, a), at(135, 146, "a"), at(135, 193, "a"))
	audits(t, frame{order: []int{1, 0, 2}}.lay(a, b, a), at(135, 194, "a"))
	audits(t, laid(altered(a, func(c *api.Central) { c.Need = 9 }), a), at(133, 66, "a"), at(135, 113, "a"))
	audits(t, laid(stored("/", ""), stored("/", "")), at(134, 62, "/"), at(134, 109, "/"), at(135, 109, "/"))
	audits(t, laid(named(a, "x"), a), at(136, 0, "a"), at(135, 113, "a"))
	audits(t, laid(told(a, func(c *api.Central) { c.Sum = 1 }), a), at(136, 0, "a"), at(135, 113, "a"))
	audits(t, laid(a, stored("A", "hi"))) // byte for byte
}

// named is a part whose local header says another name of as many bytes.
func named(x part, name string) part {
	x.local.Name = name
	return x
}

// apart is the archive of an entry whose local header says something else than its record.
func apart(change func(l *api.Local)) string {
	x := stored("a", "hi")
	change(&x.local)
	return laid(x)
}

func TestAuditLocal(t *testing.T) { // P26.1, 6: ErrLayLocal, where the entry should stand
	for what, change := range map[string]func(l *api.Local){
		"need":   func(l *api.Local) { l.Need = 20 },
		"flags":  func(l *api.Local) { l.Flags = 2 },
		"late":   func(l *api.Local) { l.Flags = 8 },
		"method": func(l *api.Local) { l.Method = 8 },
		"clock":  func(l *api.Local) { l.Clock = 1 },
		"date":   func(l *api.Local) { l.Date = 34 },
		"sum":    func(l *api.Local) { l.Sum++ },
		"packed": func(l *api.Local) { l.Packed++ },
		"size":   func(l *api.Local) { l.Size++ },
		"zeros":  func(l *api.Local) { l.Sum, l.Packed, l.Size = 0, 0, 0 },
		"name":   func(l *api.Local) { l.Name = "b" },
	} {
		audits(t, apart(change), at(136, 0, "a"))
		if t.Failed() {
			t.Fatal(what)
		}
	}
	audits(t, apart(func(l *api.Local) { l.Extra = "\x01\x00\x01\x00x" })) // it may be another one than the record's
	audits(t, apart(func(l *api.Local) { l.Extra = "abc" }), at(136, 0, "a"))
	x := stored("a", "hi")
	x.data = "h" // a byte is not there
	audits(t, laid(x), at(136, 0, "a"))
	audits(t, laid(x, stored("b", "bye")), at(170, 0, "a"), at(137, 32, "b")) // the next entry's first byte is taken for it
}

func TestAuditPlaces(t *testing.T) { // P26.1, 6: h is the record's At, wherever that is
	for _, h := range []int{1, 3, 4, 32, 33, 34, 79, 80, 101, 102, 103, 200, 1 << 24, api.MaxField} {
		f := frame{record: func(_ int, c *api.Central) { c.At = h }}
		audits(t, f.lay(stored("a", "hi")), at(136, h, "a"))
		audits(t, f.lay(altered(stored("/", "hi"), func(c *api.Central) { c.Flags = 1 })), at(133, 33, "/"), at(134, 33, "/"), at(136, h, "/"))
	}
	far := stored("a", "hi")
	far.gap = "0123456"
	audits(t, laid(far))
	audits(t, with(laid(far), 38, 'x'), at(170, 7, "a"))
}

func TestAuditAhead(t *testing.T) { // P26.1, 6: all must stand ahead of DirAt, as the end record tells it
	inner := stored("in", "x")
	text := inner.extent()
	outer := told(stored("out", "hi"), func(c *api.Central) { c.Extra = "\x01\x00\x21\x00" + text }) // a local header stands in the directory
	const within = 35 + 6 + 33 + 46 + 3 + 4
	f := frame{record: func(i int, c *api.Central) {
		if i == 1 {
			c.At = within
		}
	}}
	second := inner
	second.gap = "......"
	if file := f.lay(outer, second); file[within:within+33] != text {
		t.Fatalf("it stands at %d", strings.LastIndex(file, text))
	}
	audits(t, f.lay(outer, second), at(136, within, "in"))
	long := altered(stored("a", "hi"), func(c *api.Central) { c.Packed, c.Size, c.Sum = 3, 3, 0x0a1b2c3d })
	audits(t, laid(long), at(136, 0, "a")) // the directory's first byte is no packed one
	moved := frame{end: func(x *api.End) { x.DirAt, x.DirSize, x.Here, x.Total = 80, 47, 1, 1 }}
	audits(t, moved.lay(stored("a", "hi"), stored("b", "")), at(132, 158, ""), at(132, 80, "")) // no record stands at 80
}

func TestAuditLate(t *testing.T) { // P26.1, 6: descriptors
	for _, x := range []part{stored("a", "hi"), packed("a", "hi"), stored("a", ""), packed("a", "")} {
		for _, signed := range []bool{true, false} {
			y := late(x, signed)
			audits(t, laid(y))
			audits(t, laid(y, stored("b", "")))
			early := y
			early.local = y.record.Local
			audits(t, laid(early))
			for i := range y.behind {
				z := y
				z.behind = with(y.behind, i, y.behind[i]+1)
				audits(t, laid(z), at(136, 0, "a"))
				z.behind = y.behind[:i]
				audits(t, laid(z), at(136, 0, "a"))
			}
		}
	}
	x := late(stored("a", "hi"), true)
	x.local.Size = 2 // not all three are 0, and not all three are the record's
	audits(t, laid(x), at(136, 0, "a"))
	x = late(stored("a", "hi"), true)
	x.data = "ho"
	audits(t, laid(x), at(170, 0, "a"))
}

func TestAuditDamaged(t *testing.T) { // P26.1, 6: ErrDamaged, of what is sound in form alone
	long := strings.Repeat("some text ", 5000)
	for _, x := range []part{stored("a", "hi"), stored("a", long), packed("a", "hi"), packed("a", long)} {
		audits(t, laid(x))
		for _, i := range []int{0, len(x.data) / 2} {
			y := x
			y.data = with(x.data, i, x.data[i]^0x40)
			audits(t, laid(y), at(170, 0, "a"))
			y.local.Clock++
			audits(t, laid(y), at(136, 0, "a"))
		}
		audits(t, laid(altered(x, func(c *api.Central) { c.Sum ^= 1 })), at(170, 0, "a"))
		audits(t, laid(stored("z", ""), altered(x, func(c *api.Central) { c.Sum ^= 1 << 31 })), at(170, 31, "a"))
	}
	for _, size := range []int{0, 1, 3, 4, 100, most, most + 1, 1 << 31, api.MaxField} {
		audits(t, laid(altered(packed("a", "hi"), func(c *api.Central) { c.Size = size })), at(170, 0, "a"))
	}
	whole := packed("a", long)
	for _, cut := range []int{0, 1, len(whole.data) - 1} {
		audits(t, laid(packedAs("a", long, whole.data[:cut])), at(170, 0, "a"))
	}
	for _, rest := range []string{"x", "\x00", strings.Repeat("x", 5000)} { // bytes behind the text
		audits(t, laid(packedAs("a", long, whole.data+rest)), at(170, 0, "a"))
		audits(t, laid(packedAs("a", "", "\x03\x00"+rest)), at(170, 0, "a"))
	}
	audits(t, laid(packedAs("a", "", "\x03\x00")))
	audits(t, laid(packedAs("a", "", "")), at(170, 0, "a"))
	audits(t, laid(packedAs("a", "hi", "\x07")), at(170, 0, "a")) // no such kind of block
}

func TestAuditSeveral(t *testing.T) { // P26.1, 6: all that is wrong with one record, in this order, then the next one's
	x := altered(stored("a\\", "hi"), func(c *api.Central) { c.Flags = 1 })
	y := told(x, func(c *api.Central) { c.Clock = 1 })
	audits(t, laid(x, x), at(133, 68, "a\\"), at(134, 68, "a\\"), at(133, 116, "a\\"), at(134, 116, "a\\"), at(135, 116, "a\\"))
	audits(t, laid(stored("a\\", ""), y),
		at(134, 66, "a\\"),
		at(133, 114, "a\\"), at(134, 114, "a\\"), at(135, 114, "a\\"), at(136, 32, "a\\"))
	b := stored("b", "bye")
	b.data = "bad"
	f := frame{end: func(x *api.End) { x.DirDisk, x.Here, x.DirSize = 3, 0, 7 }}
	audits(t, f.lay(y, b, stored("c", "")),
		at(131, 241, ""), at(132, 241, ""),
		at(133, 99, "a\\"), at(134, 99, "a\\"), at(136, 0, "a\\"), at(170, 34, "b"))
}

func TestAuditNameOfRecord(t *testing.T) { // P26.1, 6: N is the record's name
	audits(t, laid(named(stored("a", "hi"), "b")), at(136, 0, "a"))
	long := strings.Repeat("n", 65535)
	c := stored(long, "").record
	c.At = 5
	b, _ := record.PutCentral(c)
	e, _ := record.PutEnd(api.End{Here: 1, Total: 1, DirSize: len(b)})
	audits(t, string(b)+string(e), at(136, 5, long))
}
