package layout_test

import (
	"fmt"
	"runtime"
	"strings"
	"testing"

	"valise/api"
	"valise/field"
	"valise/layout"
	"valise/record"
)

func TestParseFrame(t *testing.T) { // P13.3
	file := func(change func(x *api.End)) string {
		return frame{end: change, gap: "gap"}.lay(plainPart("a", "hi"), plainPart("b", ""))
	}
	if _, e := layout.Parse([]byte(file(nil))); e != api.OK {
		t.Fatal(e)
	}
	refuses(t, file(func(x *api.End) { x.Disk = 1 }), api.ErrLayDisk)
	refuses(t, file(func(x *api.End) { x.Disk = 65535 }), api.ErrLayDisk)
	refuses(t, file(func(x *api.End) { x.DirDisk = 1 }), api.ErrLayDisk)
	refuses(t, file(func(x *api.End) { x.Here = 1 }), api.ErrLayDisk)
	refuses(t, file(func(x *api.End) { x.Total = 1 }), api.ErrLayDisk)
	refuses(t, file(func(x *api.End) { x.Total = 3 }), api.ErrLayDisk)
	for _, n := range []int{0, 1, 3, 65535} {
		refuses(t, file(func(x *api.End) { x.Here, x.Total = n, n }), api.ErrLayDir)
	}
	for _, n := range []int{-47, -1, 1, 46} {
		refuses(t, file(func(x *api.End) { x.DirAt += n }), api.ErrLayDir)
		refuses(t, file(func(x *api.End) { x.DirSize += n }), api.ErrLayDir)
		refuses(t, file(func(x *api.End) { x.DirAt, x.DirSize = x.DirAt+n, x.DirSize-n }), api.ErrLayDir)
	}
	refuses(t, file(func(x *api.End) { x.DirAt = api.MaxField }), api.ErrLayDir)
	refuses(t, file(func(x *api.End) { x.DirSize = api.MaxField }), api.ErrLayDir)
	refuses(t, file(func(x *api.End) { x.DirAt, x.DirSize = 0, x.DirAt+x.DirSize }), api.ErrLayDir)
	refuses(t, file(func(x *api.End) { x.DirAt, x.DirSize = x.DirAt+x.DirSize, 0 }), api.ErrLayDir)
	refuses(t, file(func(x *api.End) { x.Disk, x.DirAt = 1, 0 }), api.ErrLayDisk) // in this order
}

func TestParseNoEntries(t *testing.T) { // P13.2, P13.3, P13.5
	for _, n := range []int{0, 1, 46, 1000} {
		parses(t, frame{gap: strings.Repeat("g", n), comment: "c"}.lay(), api.Archive{DirAt: n, Size: n + 23, Comment: "c"}, api.OK)
		if n > 0 {
			refuses(t, strings.Repeat("g", n)+none, api.ErrLayDir)
			refuses(t, strings.Repeat("g", n), api.ErrLayEnd)
			refuses(t, frame{gap: strings.Repeat("g", n), end: func(x *api.End) { x.DirAt, x.DirSize = 0, n }}.lay(), api.ErrLayDir)
		}
	}
}

func TestParseRecords(t *testing.T) { // P13.3: just so many records, within the file's first p bytes
	whole := frame{comment: strings.Repeat("c", 100)}.lay(plainPart("a", "hi"), plainPart("b", "ho"))
	dir := 33 + 33
	for at := range 4 {
		refuses(t, with(whole, dir+at, 'x'), api.ErrLayDir)
		refuses(t, with(whole, dir+47+at, 'x'), api.ErrLayDir)
	}
	for _, at := range []int{28, 30, 32} { // a text that would go into the next record, or into the end record: its bytes would be there
		refuses(t, with(whole, dir+at, whole[dir+at]+1), api.ErrLayDir)
		refuses(t, with(whole, dir+47+at, whole[dir+47+at]+1), api.ErrLayDir)
		refuses(t, with(whole, dir+47+at, whole[dir+47+at]+60), api.ErrLayDir)
	}
	refuses(t, with(whole, dir+32, 47), api.ErrLayDir) // the first one's comment is the second one
	x := with(with(whole, dir+32, 47), dir+94+8, 1)
	a, e := layout.Parse([]byte(with(x, dir+94+10, 1)))
	if e != api.OK || len(a.Entries) != 1 || len(a.Entries[0].Comment) != 47 || len(layout.Gaps(a)) != 1 {
		t.Errorf("one record with a long comment: %v, %d", a, e)
	}
}

// altered is a file of two entries, right but for a change of the second one's record, and of the local header alike.
func altered(change func(c *api.Central)) string {
	x := plainPart("b", "you")
	change(&x.record)
	x.local = x.record.Local
	return frame{}.lay(plainPart("a", "hi"), x)
}

func TestParseCore(t *testing.T) { // P13.4: ErrLayEntry
	for v := range 65536 {
		core := func(right bool, change func(c *api.Central)) {
			want := api.ErrLayEntry
			if right {
				want = api.OK
			}
			if _, e := layout.Parse([]byte(altered(change))); e != want {
				t.Fatalf("a core with %d: %d, want %d", v, e, want)
			}
		}
		core(v == 0, func(c *api.Central) { c.Disk = v })
		core(v == 0 || v == 8, func(c *api.Central) { c.Method = v })
		core(v == 10 || v == 20, func(c *api.Central) { c.Need = v })
		if v&8 == 0 {
			core(v == v&(2+4+2048), func(c *api.Central) { c.Flags = v })
		} else if v != v&(2+4+8+2048) {
			core(false, func(c *api.Central) { c.Flags = v })
		}
		core(true, func(c *api.Central) { c.Made, c.Internal, c.External, c.Clock, c.Date = v, v, v*65537, v, v })
	}
	for _, n := range []int{0, 1, 2, 4, 1 << 31, api.MaxField} {
		refuses(t, altered(func(c *api.Central) { c.Size = n }), api.ErrLayEntry)
		if _, e := layout.Parse([]byte(altered(func(c *api.Central) { c.Method, c.Size = 8, n }))); e != api.OK {
			t.Errorf("packed, of the size %d: %d", n, e)
		}
	}
	for _, extra := range []string{"a", "abc", "ab\x01\x00", "ab\x00\x00c", "ab\x05\x00cdef"} {
		refuses(t, altered(func(c *api.Central) { c.Extra = extra }), api.ErrLayEntry)
	}
	for _, extra := range []string{"", "ab\x00\x00", "ab\x01\x00c", "ab\x01\x00cde\x00\x00", "ab\xfb\xff" + strings.Repeat("x", 65531)} {
		if a, e := layout.Parse([]byte(altered(func(c *api.Central) { c.Extra, c.Comment = extra, extra }))); e != api.OK || a.Entries[1].Extra != extra || a.Entries[1].LocalExtra != extra || a.Entries[1].Comment != extra {
			t.Errorf("with the extra text %.20q: %d", extra, e)
		}
	}
}

func TestParseNames(t *testing.T) { // P13.4: ErrLayName, ErrLayTwice
	for _, name := range []string{"", "/", "/b", "b//", "..", "b/../c", "b\\c", "b\x00", "\xff", "\xed\xa0\x80"} {
		refuses(t, altered(func(c *api.Central) { c.Name = name }), api.ErrLayName)
	}
	refuses(t, altered(func(c *api.Central) { c.Name = "a" }), api.ErrLayTwice)
	for _, name := range []string{"A", "a/", "aa", "a ", "\xc3\xa9", "\xc3\xa1", "a\xcc\x81", strings.Repeat("n", 65535)} { // byte for byte: nothing is folded
		if a, e := layout.Parse([]byte(altered(func(c *api.Central) { c.Name = name }))); e != api.OK || a.Entries[1].Name != name {
			t.Errorf("the name %.20q: %d", name, e)
		}
	}
	parts := make([]part, 300)
	for i := range parts {
		parts[i] = plainPart(fmt.Sprint("n", i), "")
	}
	if a, e := layout.Parse([]byte(frame{}.lay(parts...))); e != api.OK || len(a.Entries) != 300 {
		t.Errorf("300 names: %d", e)
	}
	parts[299] = plainPart("n0", "") // far from the one that it repeats
	refuses(t, frame{}.lay(parts...), api.ErrLayTwice)
}

// apart is a file of two entries, whose second local header says something else than its record.
func apart(change func(l *api.Local)) string {
	x := plainPart("b", "you")
	x.record.Sum, x.record.Clock, x.record.Extra = 7, 5, "ab\x01\x00c"
	x.local = x.record.Local
	change(&x.local)
	return frame{gap: "room for more"}.lay(plainPart("a", "hi"), x)
}

func TestParseLocal(t *testing.T) { // P13.4: ErrLayLocal
	if _, e := layout.Parse([]byte(apart(func(*api.Local) {}))); e != api.OK {
		t.Fatal(e)
	}
	for i, change := range []func(l *api.Local){
		func(l *api.Local) { l.Need = 20 }, func(l *api.Local) { l.Need = 65535 }, func(l *api.Local) { l.Flags = 2048 }, func(l *api.Local) { l.Flags = 8 },
		func(l *api.Local) { l.Flags = 1 }, func(l *api.Local) { l.Method = 8 }, func(l *api.Local) { l.Clock++ }, func(l *api.Local) { l.Date-- },
		func(l *api.Local) { l.Name = "B" }, func(l *api.Local) { l.Name = "bb" }, func(l *api.Local) { l.Name = "" }, func(l *api.Local) { l.Extra = "abc" },
		func(l *api.Local) { l.Sum++ }, func(l *api.Local) { l.Packed++ }, func(l *api.Local) { l.Size-- }, func(l *api.Local) { l.Sum = 0 },
		func(l *api.Local) { l.Sum, l.Packed, l.Size = 0, 0, 0 }, // as if it were told late
	} {
		if a, e := layout.Parse([]byte(apart(change))); e != api.ErrLayLocal || !sameArchive(a, api.Archive{}) {
			t.Errorf("change %d: %d", i, e)
		}
	}
	for _, extra := range []string{"", "xy\x00\x00", "xy\x02\x00zz", "ab\xfb\xff" + strings.Repeat("x", 65531)} { // another one than the directory's
		a, e := layout.Parse([]byte(apart(func(l *api.Local) { l.Extra = extra })))
		if e != api.OK || a.Entries[1].LocalExtra != extra || a.Entries[1].Extra != "ab\x01\x00c" || a.Entries[1].Data != 33+31+len(extra) {
			t.Errorf("the local extra text %.20q: %d", extra, e)
		}
	}
}

func TestParsePlaces(t *testing.T) { // P13.4: where the local header stands
	file := func(at int) string {
		return frame{gap: "gap", record: func(i int, c *api.Central) { c.At = at }}.lay(plainPart("a", "hi"))
	}
	for at := range 40 {
		if _, e := layout.Parse([]byte(file(at))); (e == api.OK) != (at == 0) || e != api.OK && e != api.ErrLayLocal {
			t.Errorf("at %d: %d", at, e)
		}
	}
	for _, at := range []int{36, 37, 100, 105, 1 << 24, 1 << 31, api.MaxField} { // the directory's place, and beyond
		refuses(t, file(at), api.ErrLayLocal)
	}
	// A local header, its bytes or its descriptor that would go into the directory.
	x := plainPart("a", "hi")
	x.data = "h"
	refuses(t, frame{}.lay(x), api.ErrLayLocal)
	x.data = "hi"
	if _, e := layout.Parse([]byte(frame{}.lay(x))); e != api.OK {
		t.Errorf("bytes up to the directory: %d", e)
	}
	x = plainPart("a", "")
	x.local.Extra = "ab\x2a\x00"
	refuses(t, with(frame{}.lay(x), 28, 46), api.ErrLayLocal)
	x.record.Method, x.record.Packed = 8, api.MaxField
	x.local = x.record.Local
	refuses(t, frame{}.lay(x), api.ErrLayLocal)
}

func TestParseInDirectory(t *testing.T) { // P13.4: a local header is looked for ahead of the directory alone
	l := item("a", "").Local
	local, _ := record.PutLocal(l)
	c := api.Central{Local: l, Comment: string(local)}
	c.At = 3 + 46 + 1
	dir, _ := layout.Directory([]api.Central{c}, 3, "")
	refuses(t, "gap"+string(dir), api.ErrLayLocal)
	end, _ := layout.Directory([]api.Central{c}, 3, string(local))
	refuses(t, "gap"+string(end), api.ErrLayLocal)
}

func TestParseLate(t *testing.T) { // P13.4, P13.5
	for _, signed := range []bool{true, false} {
		n := map[bool]int{true: 16, false: 12}[signed]
		first, second := latePart("a", "hi", signed), latePart("b", "", signed)
		file := frame{}.lay(first, second)
		a, e := layout.Parse([]byte(file))
		if e != api.OK || a.Entries[0].To != 33+n || a.Entries[1].From != 33+n || a.Entries[1].Data != 64+n || a.Entries[1].To != 64+2*n || a.DirAt != 64+2*n || a.Entries[0].Sum != 0x01020304 || a.Entries[0].Packed != 2 {
			t.Fatalf("told late: %v, %d", a, e)
		}
		for at := 33; at < 33+n; at++ { // another descriptor
			refuses(t, with(file, at, file[at]^0x40), api.ErrLayLocal)
		}
		cut := second
		cut.behind = cut.behind[:n-1]
		refuses(t, frame{}.lay(first, cut), api.ErrLayLocal)
		cut.behind = ""
		refuses(t, frame{}.lay(first, cut), api.ErrLayLocal)
		refuses(t, frame{}.lay(cut, first), api.ErrLayLocal)

		told := first // the header may say it as well, but all of it or nothing
		told.local = told.record.Local
		if b, e := layout.Parse([]byte(frame{}.lay(told, second))); e != api.OK || !sameArchive(a, b) {
			t.Errorf("told early and late: %d", e)
		}
		for i, change := range []func(l *api.Local){
			func(l *api.Local) { l.Sum = 0 }, func(l *api.Local) { l.Packed = 0 }, func(l *api.Local) { l.Size = 0 }, func(l *api.Local) { l.Sum, l.Packed = 0, 0 },
			func(l *api.Local) { l.Sum, l.Size = 0, 0 }, func(l *api.Local) { l.Packed, l.Size = 0, 0 }, func(l *api.Local) { l.Sum, l.Packed, l.Size = 1, 0, 0 },
			func(l *api.Local) { l.Flags = 0 }, func(l *api.Local) { l.Sum, l.Packed, l.Size, l.Clock = 0, 0, 0, 1 },
		} {
			x := told
			change(&x.local)
			if _, e := layout.Parse([]byte(frame{}.lay(x, second))); e != api.ErrLayLocal {
				t.Errorf("told late, change %d: %d", i, e)
			}
		}
	}
}

func TestParseLateInDirectory(t *testing.T) { // P13.4: a descriptor whose last number would be the directory's signature
	x := latePart("a", "hi", false)
	x.record.Method, x.record.Size = 8, 0x02014b50
	x.local.Method = 8
	b, _ := record.PutDescriptor(x.record.Local, false)
	x.behind = string(b)
	if _, e := layout.Parse([]byte(frame{}.lay(x))); e != api.OK {
		t.Fatal(e)
	}
	x.behind = string(b[:8])
	refuses(t, frame{}.lay(x), api.ErrLayLocal)
}

func TestParseLateSign(t *testing.T) { // P13.5: an entry whose sum is the signature itself
	x := latePart("a", "hi", false)
	x.record.Sum = 0x08074b50
	b, _ := record.PutDescriptor(x.record.Local, false)
	x.behind = string(b)
	a, e := layout.Parse([]byte(frame{}.lay(x)))
	if e != api.OK || a.Entries[0].To != 45 {
		t.Errorf("unsigned: %v, %d", a, e)
	}
	x.behind = string(b[:4]) + x.behind
	a, e = layout.Parse([]byte(frame{}.lay(x)))
	if e != api.OK || a.Entries[0].To != 49 {
		t.Errorf("signed: %v, %d", a, e)
	}
}

func TestParseFirst(t *testing.T) { // P13.4: the first entry's error, and of an entry the first one
	wrong := []struct {
		e      api.Errno
		change func(x *part)
	}{
		{api.ErrLayEntry, func(x *part) { x.record.Disk = 1 }},
		{api.ErrLayName, func(x *part) { x.record.Name, x.local.Name = ".", "." }},
		{api.ErrLayTwice, func(x *part) { x.record.Name, x.local.Name = "a", "a" }},
		{api.ErrLayLocal, func(x *part) { x.local.Clock++ }},
	}
	for i, one := range wrong {
		for j, other := range wrong {
			b, c := plainPart("b", ""), plainPart("c", "")
			one.change(&b)
			other.change(&c)
			refuses(t, frame{}.lay(plainPart("a", ""), b, c), one.e)
			refuses(t, frame{order: []int{0, 2, 1}}.lay(plainPart("a", ""), b, c), other.e) // in the directory's order
			if i < j && (one.e != api.ErrLayName || other.e != api.ErrLayTwice) {
				other.change(&b)
				refuses(t, frame{}.lay(plainPart("a", ""), b), one.e)
			}
		}
	}
}

func TestParseOverlap(t *testing.T) { // P13.5
	inner, _ := record.PutLocal(item("b", "x").Local)
	outer := plainPart("a", string(inner)+"x")
	file := func(order []int, at int, behind ...part) string {
		b := plainPart("b", "x")
		return frame{order: order, record: func(i int, c *api.Central) {
			if i == 1 {
				c.At = at
			}
		}}.lay(append([]part{outer, b}, behind...)...)
	}
	at := 31 + len(inner) + 1 // where the second one really stands
	if _, e := layout.Parse([]byte(file(nil, at))); e != api.OK {
		t.Fatalf("side by side: %d", e)
	}
	refuses(t, file(nil, 31), api.ErrLayOverlap) // within the other one's bytes
	refuses(t, file([]int{1, 0}, 31), api.ErrLayOverlap)
	refuses(t, file(nil, 31, plainPart("c", "")), api.ErrLayOverlap)
	late := plainPart("c", "") // all entries are looked at first
	late.local.Date++
	refuses(t, file(nil, 31, late), api.ErrLayLocal)
	late.record.Need = 11
	refuses(t, file(nil, 31, late), api.ErrLayEntry)
}

func TestParseOverlapEdge(t *testing.T) { // P13.5: by the last byte alone
	inner, _ := record.PutLocal(item("b", "").Local)
	for over := range 3 {
		a := plainPart("a", "some bytes"+string(inner[:over]))
		b := plainPart("b", "")
		file := frame{gap: string(inner[over:])}.lay(a)
		x, _, _ := record.GetEnd([]byte(file), len(file)-22)
		c, d := a.record, b.record
		d.At = 31 + 10
		dir, _ := layout.Directory([]api.Central{c, d}, x.DirAt, "")
		_, e := layout.Parse([]byte(file[:x.DirAt] + string(dir)))
		if want := map[bool]api.Errno{true: api.OK, false: api.ErrLayOverlap}[over == 0]; e != want {
			t.Errorf("%d bytes in common: %d", over, e)
		}
	}
}

func TestParseOrder(t *testing.T) { // P13.5: gaps, and the directory's order
	parts := []part{plainPart("a", "one"), latePart("b", "two", true), plainPart("c", "three")}
	parts[0].gap, parts[2].gap = "ahead", "between"
	sum := field.Sum([]byte("three"))
	parts[2].record.Sum, parts[2].local.Sum = sum, sum
	file := frame{gap: "behind", comment: "note", order: []int{2, 0, 1}}.lay(parts...)
	first := api.Entry{Central: parts[0].record, From: 5, Data: 36, To: 39}
	second := api.Entry{Central: parts[1].record, From: 39, Data: 70, To: 89}
	third := api.Entry{Central: parts[2].record, From: 96, Data: 127, To: 132}
	first.At, second.At, third.At = 5, 39, 96
	a := api.Archive{Entries: []api.Entry{third, first, second}, DirAt: 138, Size: 138 + 3*47 + 26, Comment: "note"}
	parses(t, file, a, api.OK)
	extents(t, a, api.Span{From: 5, To: 39}, api.Span{From: 39, To: 89}, api.Span{From: 96, To: 132})
	gaps(t, a, api.Span{From: 0, To: 5}, api.Span{From: 89, To: 96}, api.Span{From: 132, To: 138})
}

func TestParseMost(t *testing.T) { // P13.5: as many entries as there may be
	parts := make([]part, api.MaxEntries)
	order := make([]int, len(parts))
	for i := range parts {
		parts[i] = plainPart(fmt.Sprintf("%05d", i), "x")
		order[i] = i ^ 1
	}
	order[len(order)-1] = len(order) - 1
	a, e := layout.Parse([]byte(frame{order: order}.lay(parts...)))
	if e != api.OK || len(a.Entries) != len(parts) || a.Entries[0].Name != "00001" || len(layout.Gaps(a)) != 0 || len(layout.Extents(a)) != len(parts) {
		t.Fatalf("%d entries, %d", len(a.Entries), e)
	}
	if n := layout.Tight(a.Entries, ""); n != a.Size {
		t.Errorf("Tight = %d, of a file of %d", n, a.Size)
	}
}

func TestParseShared(t *testing.T) { // P13.5, P0.1: thousands of entries whose extra texts are each other's headers: no memory for each of them
	var file []byte
	var records []api.Central
	for i := range 8000 {
		l := api.Local{Need: 10, Name: fmt.Sprintf("%04d", i)}
		records = append(records, api.Central{Local: l, At: len(file)})
		b, _ := record.PutLocal(l)
		b[28], b[29] = 0xff, 0xff
		file = append(append(file, b...), "ab\xfb\xff"...)
	}
	file = append(file, make([]byte, 65535)...)
	dir, _ := layout.Directory(records, len(file), "")
	var before, behind runtime.MemStats
	runtime.ReadMemStats(&before)
	refuses(t, string(file)+string(dir), api.ErrLayOverlap)
	runtime.ReadMemStats(&behind)
	if behind.HeapSys > before.HeapSys+300<<20 { // kept, they would take 500 million bytes
		t.Errorf("%d bytes of memory", behind.HeapSys-before.HeapSys)
	}
	dir, _ = layout.Directory(append(records, api.Central{Disk: 1}), len(file), "") // a wrong entry behind them is still found
	refuses(t, string(file)+string(dir), api.ErrLayEntry)
}
