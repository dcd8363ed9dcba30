package layout_test

import (
	"strings"
	"testing"

	"valise/api"
	"valise/field"
	"valise/layout"
	"valise/record"
)

// none is the end record of an archive without entries.
const none = "PK\x05\x06\x00\x00\x00\x00\x00\x00\x00\x00\x00\x00\x00\x00\x00\x00\x00\x00\x00\x00"

// known is the archive of example 2, byte for byte.
const known = "PK\x03\x04\x0a\x00\x00\x00\x00\x00\x00\x00\x21\x00\x00\x00\x00\x00\x02\x00\x00\x00\x02\x00\x00\x00\x01\x00\x00\x00a" + "hi" +
	"PK\x01\x02\x14\x00\x0a\x00\x00\x00\x00\x00\x00\x00\x21\x00\x00\x00\x00\x00\x02\x00\x00\x00\x02\x00\x00\x00\x01\x00\x00\x00\x00\x00\x00\x00\x00\x00\x00\x00\x00\x00\x00\x00\x00\x00a" +
	"PK\x05\x06\x00\x00\x00\x00\x01\x00\x01\x00\x2f\x00\x00\x00\x21\x00\x00\x00\x00\x00"

// item is an item like that of example 2, of another name and other bytes.
func item(name, data string) api.Item {
	l := api.Local{Need: 10, Date: 33, Packed: len(data), Size: len(data), Name: name}
	return api.Item{Central: api.Central{Local: l, Made: 20}, Bytes: []byte(data)}
}

// with is a file with the byte at a place another one.
func with(file string, at int, b byte) string { return file[:at] + string([]byte{b}) + file[at+1:] }

func TestExampleEnds(t *testing.T) { // example 1
	parses(t, "", api.Archive{}, api.OK)
	parses(t, none, api.Archive{Size: 22}, api.OK)
	parses(t, none+"c", api.Archive{}, api.ErrLayEnd)
	parses(t, with(none, 20, 1)+"c", api.Archive{Size: 23, Comment: "c"}, api.OK)
}

func TestExampleOne(t *testing.T) { // example 2
	renders(t, []api.Item{item("a", "hi")}, "", known, api.OK)
	if p, e := layout.FindEnd([]byte(known)); p != 80 || e != api.OK {
		t.Errorf("FindEnd = %d, %d", p, e)
	}
	x, _, e := record.GetEnd([]byte(known), 80)
	if x.DirSize != 47 || x.DirAt != 33 || e != api.OK {
		t.Errorf("the end record: %v, %d", x, e)
	}
	a := api.Archive{Entries: []api.Entry{{Central: item("a", "hi").Central, From: 0, Data: 31, To: 33}}, DirAt: 33, Size: 102}
	parses(t, known, a, api.OK)
	extents(t, a, api.Span{From: 0, To: 33})
	gaps(t, a)
	if n := layout.Tight(a.Entries, ""); n != 102 {
		t.Errorf("Tight = %d", n)
	}
}

func TestExampleRefused(t *testing.T) { // example 3
	refuses := func(want api.Errno, change func(x *api.Item)) {
		t.Helper()
		x := item("a", "hi")
		change(&x)
		renders(t, []api.Item{x}, "", "", want)
	}
	refuses(api.ErrLayEntry, func(x *api.Item) { x.Flags = 1 })
	refuses(api.ErrLayEntry, func(x *api.Item) { x.Flags = 8 })
	refuses(api.ErrLayEntry, func(x *api.Item) { x.Size = 3 })
	refuses(api.ErrLayEntry, func(x *api.Item) { x.Extra = "abc" })
	refuses(api.ErrLayName, func(x *api.Item) { x.Name = "/" })
	refuses(api.ErrArg, func(x *api.Item) { x.Packed = 3 })
	refuses(api.ErrRecWide, func(x *api.Item) { x.Made = 65536 })
	renders(t, []api.Item{item("a", "hi"), item("a", "hi")}, "", "", api.ErrLayTwice)
}

func TestExampleChanged(t *testing.T) { // example 4
	a, _ := layout.Parse([]byte(known))
	parses(t, with(known, 26, 2), api.Archive{}, api.ErrLayLocal)
	parses(t, with(known, 30, 'b'), api.Archive{}, api.ErrLayLocal)
	parses(t, with(known, 31, 'H'), a, api.OK)
	parses(t, with(known, 33, 'p'), api.Archive{}, api.ErrLayDir)
	parses(t, with(known, 84, 1), api.Archive{}, api.ErrLayDisk)
}

func TestExampleLate(t *testing.T) { // example 5
	sum := field.Sum([]byte("hi"))
	l := api.Local{Need: 20, Flags: 8, Sum: sum, Packed: 2, Size: 2, Name: "a"}
	local := "PK\x03\x04\x14\x00\x08\x00" + strings.Repeat("\x00", 18) + "\x01\x00\x00\x00a"
	signed, _ := record.PutDescriptor(l, true)
	central, _ := record.PutCentral(api.Central{Local: l})
	file := func(descriptor []byte) string {
		end, _ := record.PutEnd(api.End{Here: 1, Total: 1, DirSize: len(central), DirAt: 33 + len(descriptor)})
		return local + "hi" + string(descriptor) + string(central) + string(end)
	}
	x := api.Entry{Central: api.Central{Local: l}, From: 0, Data: 31, To: 49}
	parses(t, file(signed), api.Archive{Entries: []api.Entry{x}, DirAt: 49, Size: 49 + 47 + 22}, api.OK)
	x.To = 45
	parses(t, file(signed[4:]), api.Archive{Entries: []api.Entry{x}, DirAt: 45, Size: 45 + 47 + 22}, api.OK)
	signed[4]++
	parses(t, file(signed), api.Archive{}, api.ErrLayLocal)
	parses(t, file(signed[4:]), api.Archive{}, api.ErrLayLocal)
}

func TestExampleGaps(t *testing.T) { // example 6
	gaps(t, spanned(100, 10, 40, 60, 90), api.Span{From: 0, To: 10}, api.Span{From: 40, To: 60}, api.Span{From: 90, To: 100})
	gaps(t, spanned(70, 10, 40, 60, 90), api.Span{From: 0, To: 10}, api.Span{From: 40, To: 60})
	gaps(t, spanned(100, 10, 40, 30, 20), api.Span{From: 0, To: 10}, api.Span{From: 40, To: 100})
	gaps(t, spanned(-5, 10, 40))
	gaps(t, spanned(-5))
}
