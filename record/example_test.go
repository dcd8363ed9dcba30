package record_test

import (
	"strings"
	"testing"

	"valise/api"
	"valise/record"
)

func TestExampleNames(t *testing.T) { // example 1
	for _, name := range []string{"a", "a/b.txt", "dir/", "..a", "a..", "...", "\xc3\xa9", "\xef\xbf\xbd"} {
		checks(t, name, api.OK)
	}
	for _, name := range []string{"", "/", "/a", "a//b", "a//", ".", "./a", "a/..", "a/../", "a\\b", "a\x00", "a\x1f", "a\x7f",
		"\xc3", "\xc0\x80", "\xed\xa0\x80", "\xf4\x90\x80\x80", "\x80"} {
		checks(t, name, api.ErrName)
	}
}

func TestExampleStamps(t *testing.T) { // example 2
	packs(t, api.Stamp{Year: 1980, Month: 1, Day: 1}, 33, 0, api.OK)
	packs(t, api.Stamp{Year: 2026, Month: 11, Day: 14, Hour: 15, Minute: 47, Second: 59}, 23918, 32253, api.OK)
	unpacks(t, 23918, 32253, api.Stamp{Year: 2026, Month: 11, Day: 14, Hour: 15, Minute: 47, Second: 58}, api.OK)
	packs(t, api.Stamp{Year: 2107, Month: 12, Day: 31, Hour: 23, Minute: 59, Second: 58}, 65439, 49021, api.OK)
}

func TestExampleNoStamps(t *testing.T) { // example 3
	for _, s := range []api.Stamp{
		{Year: 1979, Month: 12, Day: 31}, {Year: 2108, Month: 1, Day: 1}, {Year: 2025, Month: 2, Day: 29},
		{Year: 2100, Month: 2, Day: 29}, {Year: 2026, Month: 4, Day: 31}, {Year: 2026, Month: 4, Day: 30, Hour: 24},
		{Year: 2026, Month: 4, Day: 30, Second: 60}, {Year: 2026, Month: 4, Day: 0},
	} {
		packs(t, s, 0, 0, api.ErrStamp)
	}
	for _, c := range [][2]int{{0, 0}, {33, 30}, {33, 1920}, {33, 49152}} {
		unpacks(t, c[0], c[1], api.Stamp{}, api.ErrStamp)
	}
	unpacks(t, 65536, 0, api.Stamp{}, api.ErrArg)
}

func TestExampleLocal(t *testing.T) { // example 4
	hi := api.Local{Need: 20, Flags: 2, Method: 8, Clock: 1, Date: 33, Sum: 0x01020304, Packed: 5, Size: 6, Name: "hi"}
	text := "\x50\x4b\x03\x04\x14\x00\x02\x00\x08\x00\x01\x00\x21\x00\x04\x03\x02\x01\x05\x00\x00\x00\x06\x00\x00\x00\x02\x00\x00\x00\x68\x69"
	putsLocal(t, hi, text, api.OK)
	getsLocal(t, text, 0, hi, 32, api.OK)
	getsLocal(t, text[:31], 0, api.Local{}, 0, api.ErrRecShort)
	getsLocal(t, text[:29], 0, api.Local{}, 0, api.ErrRecShort)
	getsLocal(t, text, 3, api.Local{}, 0, api.ErrRecShort)
	getsLocal(t, text, 33, api.Local{}, 0, api.ErrArg)
}

func TestExampleEnd(t *testing.T) { // example 5
	x := api.End{Total: 1, Here: 1, DirSize: 48, DirAt: 37}
	putsEnd(t, x, "\x50\x4b\x05\x06\x00\x00\x00\x00\x01\x00\x01\x00\x30\x00\x00\x00\x25\x00\x00\x00\x00\x00", api.OK)
	putsEnd(t, api.End{Total: 65536}, "", api.ErrRecWide)
	putsEnd(t, api.End{DirAt: -1}, "", api.ErrRecWide)
}

func TestExampleExtra(t *testing.T) { // example 6
	text := "\x55\x54\x01\x00\x07\x0a\x00\x00\x00"
	splits(t, text, api.OK, api.Extra{Tag: 0x5455, Data: "\x07"}, api.Extra{Tag: 0x000a})
	splits(t, text[:8], api.ErrRecShort)
	splits(t, text[:4], api.ErrRecShort)
	splits(t, text[:1], api.ErrRecShort)
	joins(t, "", api.ErrRecWide, api.Extra{Tag: 65536})
	long := strings.Repeat("x", 65531)
	joins(t, "\x01\x00\xfb\xff"+long, api.OK, api.Extra{Tag: 1, Data: long})
	joins(t, "", api.ErrRecWide, api.Extra{Tag: 1, Data: long + "x"})
}

func TestExampleDescriptor(t *testing.T) { // example 7
	l := api.Local{Sum: 1, Packed: 2, Size: 3}
	text := "\x50\x4b\x07\x08\x01\x00\x00\x00\x02\x00\x00\x00\x03\x00\x00\x00"
	describes(t, l, true, text, api.OK)
	describes(t, l, false, text[4:], api.OK)
	found(t, text, 0, l, 16, api.OK)
	found(t, text, 4, l, 12, api.OK)
	found(t, text, 5, l, 0, api.ErrRecShort)
	found(t, text, 16, l, 0, api.ErrRecShort)
	found(t, text, 17, l, 0, api.ErrArg)
	l.Size = 4
	found(t, text, 0, l, 0, api.ErrRecSig)
	found(t, text, 4, l, 0, api.ErrRecSig)
}

// The whole of an archive of one empty entry, by hand: the three records follow one another.
func TestExampleWhole(t *testing.T) {
	l := api.Local{Need: 10, Date: 33, Name: "a"}
	local, _ := record.PutLocal(l)
	central, _ := record.PutCentral(api.Central{Local: l, Made: 10})
	end, _ := record.PutEnd(api.End{Here: 1, Total: 1, DirSize: len(central), DirAt: len(local)})
	file := string(local) + string(central) + string(end)
	getsEnd(t, file, 78, api.End{Here: 1, Total: 1, DirSize: 47, DirAt: 31}, 100, api.OK)
	getsCentral(t, file, 31, api.Central{Local: l, Made: 10}, 78, api.OK)
	getsLocal(t, file, 0, l, 31, api.OK)
}
