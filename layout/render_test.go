package layout_test

import (
	"fmt"
	"math"
	"slices"
	"strings"
	"testing"

	"valise/api"
	"valise/layout"
	"valise/record"
)

// full is a record in which all fields hold something, and no two the same; as little as the core asks for is right in it.
func full() api.Central {
	l := api.Local{Need: 3, Flags: 4, Method: 5, Clock: 6, Date: 7, Sum: 8, Packed: 9, Size: 10, Name: "../name", Extra: "extra"}
	return api.Central{Local: l, Made: 11, Disk: 12, Internal: 13, External: 14, At: 15, Comment: "comment"}
}

func TestDirectory(t *testing.T) { // P13.9: the records just as they are
	one, _ := record.PutCentral(full())
	two, _ := record.PutCentral(api.Central{})
	end := func(n, size, at int, comment string) string {
		b, _ := record.PutEnd(api.End{Here: n, Total: n, DirSize: size, DirAt: at, Comment: comment})
		return string(b)
	}
	directs(t, nil, 0, "", none, api.OK)
	directs(t, nil, api.MaxField, "c", end(0, 0, api.MaxField, "c"), api.OK)
	directs(t, []api.Central{full()}, 7, "", string(one)+end(1, len(one), 7, ""), api.OK)
	directs(t, []api.Central{full(), {}, full()}, 1<<24+5, "note", string(one)+string(two)+string(one)+end(3, 2*len(one)+46, 1<<24+5, "note"), api.OK)
	directs(t, nil, 3, none, end(0, 0, 3, none), api.OK) // what FindEnd would find is not asked
	directs(t, nil, 3, strings.Repeat("c", 65535), end(0, 0, 3, strings.Repeat("c", 65535)), api.OK)
	most := slices.Repeat([]api.Central{{}}, 65535)
	directs(t, most, 9, "", strings.Repeat(string(two), 65535)+end(65535, 65535*46, 9, ""), api.OK)
	directs(t, append(most, api.Central{}), 9, "", "", api.ErrRecWide)
}

func TestDirectoryRefused(t *testing.T) { // P13.9
	wide := full()
	wide.Made = 65536
	for _, at := range []int{-1, math.MinInt} {
		directs(t, nil, at, "", "", api.ErrArg)
		directs(t, []api.Central{wide}, at, strings.Repeat("c", 65536), "", api.ErrArg) // ahead of the records
	}
	directs(t, nil, api.MaxField+1, "", "", api.ErrRecWide)
	directs(t, nil, math.MaxInt, "", "", api.ErrRecWide)
	directs(t, nil, 0, strings.Repeat("c", 65536), "", api.ErrRecWide)
	directs(t, []api.Central{full(), wide}, 0, "", "", api.ErrRecWide)
	wide = full()
	wide.At = -1
	directs(t, []api.Central{wide, full()}, 0, "", "", api.ErrRecWide)
	wide = full()
	wide.Comment = strings.Repeat("c", 65536)
	directs(t, []api.Central{full(), wide, full()}, 0, "", "", api.ErrRecWide)
}

func TestRender(t *testing.T) { // P13.10: byte for byte, by layer 12
	items := []api.Item{item("a", "hi"), item("dir/", ""), item("dir/b", "some bytes")}
	items[0].Made, items[0].Internal, items[0].External, items[0].Comment, items[0].At = 65535, 1, api.MaxField, "of a", -5
	items[1].Extra, items[1].Flags, items[1].Need, items[1].At = "ab\x01\x00c", 2048, 20, math.MaxInt
	items[2].Method, items[2].Size, items[2].Sum, items[2].Clock, items[2].Flags = 8, 12345, 0xfedcba98, 65535, 2|4
	file, central := "", ""
	for _, x := range items {
		local, _ := record.PutLocal(x.Local)
		x.At = len(file)
		file += string(local) + string(x.Bytes)
		b, _ := record.PutCentral(x.Central)
		central += string(b)
	}
	end, _ := record.PutEnd(api.End{Here: 3, Total: 3, DirSize: len(central), DirAt: len(file), Comment: "of all"})
	renders(t, items, "of all", file+central+string(end), api.OK)
	renders(t, nil, "", none, api.OK)
	renders(t, nil, "c", endOf(1)+"c", api.OK)
}

// wrongItem is an item that is right but for a change.
func wrongItem(name string, change func(x *api.Item)) api.Item {
	x := item(name, "hi")
	change(&x)
	return x
}

func TestRenderSizes(t *testing.T) { // P13.10: ErrArg
	for _, n := range []int{-1, 0, 1, 3, api.MaxField, math.MaxInt, math.MinInt} {
		x := wrongItem("b", func(x *api.Item) { x.Packed, x.Size = n, n })
		renders(t, []api.Item{x}, "", "", api.ErrArg)
		renders(t, []api.Item{item("a", ""), x}, "", "", api.ErrArg)
		wrong := wrongItem("..", func(x *api.Item) { x.Made, x.Disk = -1, 1 }) // ahead of all that is wrong with an item ahead
		renders(t, []api.Item{wrong, wrong, x}, strings.Repeat("c", 65536), "", api.ErrArg)
	}
}

func TestRenderCapacity(t *testing.T) { // P13.10: ErrArg, to the byte
	name, extra, note := "name", "ab\x01\x00c", "of it"
	x := item(name, strings.Repeat("x", api.MaxCapacity-76-22-2*len(name)-2*len(extra)-len(note)-7))
	x.Extra, x.Comment = extra, note
	file, e := layout.Render([]api.Item{x}, "comment")
	if len(file) != api.MaxCapacity || e != api.OK {
		t.Fatalf("%d bytes, %d", len(file), e)
	}
	if a, e := layout.Parse(file); e != api.OK || len(a.Entries) != 1 || a.Entries[0].Packed != x.Packed {
		t.Errorf("parsed: %d", e)
	}
	renders(t, []api.Item{x}, "comment.", "", api.ErrArg)
	for i, change := range []func(x *api.Item){
		func(x *api.Item) { x.Name += "s" }, func(x *api.Item) { x.Comment += "s" }, func(x *api.Item) { x.Extra = "ab\x02\x00cd" },
		func(x *api.Item) { x.Bytes = append(x.Bytes, 0); x.Packed++; x.Size++ },
	} {
		y := x
		change(&y)
		if b, e := layout.Render([]api.Item{y}, "comment"); b != nil || e != api.ErrArg {
			t.Errorf("change %d: %d", i, e)
		}
	}
	y := wrongItem("..", func(x *api.Item) { x.Disk = 1 })
	if b, e := layout.Render([]api.Item{y, x}, "comment"); b != nil || e != api.ErrArg {
		t.Errorf("ahead of a wrong item: %d", e)
	}
	renders(t, nil, strings.Repeat("c", api.MaxCapacity-22), "", api.ErrRecWide)
	renders(t, nil, strings.Repeat("c", api.MaxCapacity-21), "", api.ErrArg)
}

func TestRenderCore(t *testing.T) { // P13.10: ErrLayEntry
	for i, change := range []func(x *api.Item){
		func(x *api.Item) { x.Disk = 1 }, func(x *api.Item) { x.Disk = -1 }, func(x *api.Item) { x.Disk = 65536 },
		func(x *api.Item) { x.Method = 1 }, func(x *api.Item) { x.Method = 9 }, func(x *api.Item) { x.Method = -1 }, func(x *api.Item) { x.Method = 65536 + 8 },
		func(x *api.Item) { x.Need = 0 }, func(x *api.Item) { x.Need = 11 }, func(x *api.Item) { x.Need = 45 }, func(x *api.Item) { x.Need = -10 }, func(x *api.Item) { x.Need = 1<<32 + 10 },
		func(x *api.Item) { x.Flags = -1 }, func(x *api.Item) { x.Flags = math.MinInt }, func(x *api.Item) { x.Flags = 65536 }, func(x *api.Item) { x.Flags = 1<<40 | 2 }, func(x *api.Item) { x.Flags = 4096 },
		func(x *api.Item) { x.Flags = 8 }, func(x *api.Item) { x.Flags = 8 | 2048 }, func(x *api.Item) { x.Flags, x.Method = 8, 8 },
		func(x *api.Item) { x.Size = 1 }, func(x *api.Item) { x.Size = -1 }, func(x *api.Item) { x.Size = 1<<32 + 2 },
		func(x *api.Item) { x.Extra = "a" }, func(x *api.Item) { x.Extra = "ab\x01\x00" }, func(x *api.Item) { x.Extra = "ab\xfb\xff" + strings.Repeat("x", 65532) },
	} {
		x := wrongItem("a", change)
		renders(t, []api.Item{x}, "", "", api.ErrLayEntry)
		x.Name, x.Made = "..", -1 // ahead of the name and the numbers
		if b, e := layout.Render([]api.Item{item("b", ""), x}, strings.Repeat("c", 65536)); b != nil || e != api.ErrLayEntry {
			t.Errorf("change %d: %d", i, e)
		}
	}
	for flag := range 16 {
		x := wrongItem("a", func(x *api.Item) { x.Flags = 1 << flag })
		_, e := layout.Render([]api.Item{x}, "")
		if right := flag == 1 || flag == 2 || flag == 11; right != (e == api.OK) || !right && e != api.ErrLayEntry {
			t.Errorf("the flag of the bit %d: %d", flag, e)
		}
	}
}

func TestRenderNames(t *testing.T) { // P13.10: ErrLayName, ErrLayTwice
	for _, name := range []string{"", "/", "/a", "..", "a/./b", "\\", "a\x7f", "\xc0\x80", strings.Repeat("n", 65536)} {
		renders(t, []api.Item{item(name, "hi")}, "", "", api.ErrLayName)
		renders(t, []api.Item{item("x", ""), item(name, "hi"), item("x", "")}, "", "", api.ErrLayName)
		renders(t, []api.Item{item("x", ""), item("x", ""), item(name, "hi")}, "", "", api.ErrLayTwice) // the first one that is refused
	}
	renders(t, []api.Item{item("a", ""), item("b", ""), item("a", "x")}, "", "", api.ErrLayTwice)
	renders(t, []api.Item{item("a", ""), wrongItem("a", func(x *api.Item) { x.Made = -1 })}, strings.Repeat("c", 65536), "", api.ErrLayTwice)
	renders(t, []api.Item{item("a", ""), wrongItem("a", func(x *api.Item) { x.Need = 0 })}, "", "", api.ErrLayEntry)
	wide := wrongItem("w", func(x *api.Item) { x.Clock = 65536 })
	renders(t, []api.Item{wide, item("b", ""), item("b", "")}, "", "", api.ErrLayTwice) // all items ahead of all records
	if _, e := layout.Render([]api.Item{item("a", ""), item("A", ""), item("a/", ""), item(strings.Repeat("n", 65535), "")}, ""); e != api.OK {
		t.Errorf("names that differ: %d", e)
	}
}

func TestRenderWide(t *testing.T) { // P13.10: ErrRecWide
	for i, change := range []func(x *api.Item){
		func(x *api.Item) { x.Made = -1 }, func(x *api.Item) { x.Made = 65536 }, func(x *api.Item) { x.Internal = -1 }, func(x *api.Item) { x.Internal = 65536 },
		func(x *api.Item) { x.External = -1 }, func(x *api.Item) { x.External = api.MaxField + 1 }, func(x *api.Item) { x.Clock = -1 }, func(x *api.Item) { x.Clock = 65536 },
		func(x *api.Item) { x.Date = -1 }, func(x *api.Item) { x.Date = 65536 }, func(x *api.Item) { x.Method, x.Size = 8, -1 }, func(x *api.Item) { x.Method, x.Size = 8, api.MaxField+1 },
		func(x *api.Item) { x.Comment = strings.Repeat("c", 65536) },
	} {
		x := wrongItem("b", change)
		if b, e := layout.Render([]api.Item{item("a", ""), x}, none); b != nil || e != api.ErrRecWide { // ahead of ErrLayEnd
			t.Errorf("change %d: %d", i, e)
		}
	}
	renders(t, nil, strings.Repeat("c", 65536), "", api.ErrRecWide)
	items := make([]api.Item, 65536)
	for i := range items {
		items[i] = item(fmt.Sprint(i), "")
	}
	if b, e := layout.Render(items, ""); b != nil || e != api.ErrRecWide {
		t.Errorf("65536 items: %d bytes, %d", len(b), e)
	}
	b, e := layout.Render(items[1:], "")
	if e != api.OK {
		t.Fatalf("65535 items: %d", e)
	}
	if a, e := layout.Parse(b); e != api.OK || len(a.Entries) != 65535 || layout.Tight(a.Entries, "") != len(b) {
		t.Errorf("65535 items, parsed: %d", e)
	}
}

func TestRenderEnd(t *testing.T) { // P13.10: ErrLayEnd
	for _, items := range [][]api.Item{nil, {item("a", "hi")}, {item("a", none)}} {
		for _, comment := range []string{none, "x" + none, endOf(1) + "y", strings.Repeat("x", 65513) + none, endOf(65513) + strings.Repeat("x", 65513), none + none} {
			renders(t, items, comment, "", api.ErrLayEnd)
		}
		for _, comment := range []string{"", "x", none[:21], none + "x", endOf(1), endOf(2) + "x", with(none, 0, 'p'), "PK\x05\x06", strings.Repeat("PK\x05\x06", 16383)} {
			b, e := layout.Render(items, comment)
			if e != api.OK {
				t.Errorf("with the comment %.30q: %d", comment, e)
			}
			if a, e := layout.Parse(b); e != api.OK || a.Comment != comment || len(a.Entries) != len(items) {
				t.Errorf("parsed, with the comment %.30q: %d", comment, e)
			}
		}
	}
	within := "\x05\x06" + endOf(19260)[4:] + strings.Repeat("x", 19260) // its own length, 0x4b50, begins another one
	renders(t, nil, within, "", api.ErrLayEnd)
	renders(t, []api.Item{item("a", "hi")}, within, "", api.ErrLayEnd)
	if b, e := layout.Render(nil, within+"x"); e != api.OK || len(b) != 22+19281 {
		t.Errorf("with a length that begins none: %d", e)
	}
	if _, e := layout.Render([]api.Item{wrongItem("a", func(x *api.Item) { x.Comment = none })}, ""); e != api.OK {
		t.Errorf("an end record in an entry's comment: %d", e)
	}
}
