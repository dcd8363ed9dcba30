package layout_test

import (
	"slices"
	"strings"
	"sync"
	"testing"

	"valise/api"
	"valise/layout"
)

func TestNilIsEmpty(t *testing.T) { // P0.2
	for _, file := range [][]byte{nil, {}, []byte(none)[:0]} {
		if p, e := layout.FindEnd(file); p != 0 || e != api.ErrLayEnd {
			t.Errorf("FindEnd of nothing = %d, %d", p, e)
		}
		if a, e := layout.Parse(file); !sameArchive(a, api.Archive{}) || e != api.OK {
			t.Errorf("Parse of nothing = %v, %d", a, e)
		}
	}
	for _, entries := range [][]api.Entry{nil, {}, make([]api.Entry, 0, 9)} {
		extents(t, api.Archive{Entries: entries, DirAt: 9})
		gaps(t, api.Archive{Entries: entries, DirAt: 9}, span(0, 9))
		tights(t, 22, "", entries...)
	}
	for _, records := range [][]api.Central{nil, {}, make([]api.Central, 0, 9)} {
		directs(t, records, 0, "", none, api.OK)
	}
	for _, items := range [][]api.Item{nil, {}, make([]api.Item, 0, 9)} {
		renders(t, items, "", none, api.OK)
	}
	x, y := item("a", ""), item("a", "")
	x.Bytes, y.Bytes = nil, []byte("room")[:0]
	file, _ := layout.Render([]api.Item{x}, "")
	renders(t, []api.Item{y}, "", string(file), api.OK)
	if len(file) != 31+47+22 {
		t.Errorf("an item of no bytes: %d", len(file))
	}
}

// spoil writes over a list and over the room behind its end.
func spoil[T any](list []T, v T) {
	list = list[:cap(list)]
	for i := range list {
		list[i] = v
	}
}

func TestMemoryParse(t *testing.T) { // P0.3
	whole := frame{gap: "gap", comment: "note"}.lay(plainPart("a", "hi"), latePart("b", "ho", true))
	want, _ := plainParse(whole)
	file := append([]byte(whole), "the room behind"...)[:len(whole)]
	a, e := layout.Parse(file)
	b, f := layout.Parse(file)
	if e != api.OK || f != api.OK || string(file[:cap(file)][:len(whole)+15]) != whole+"the room behind" {
		t.Fatalf("%d, %d, or what was handed in is changed", e, f)
	}
	spoil(file, 'q')
	spoil(b.Entries, api.Entry{From: 7})
	if !sameArchive(a, want) {
		t.Errorf("the answer became %v", a)
	}
	for n := range whole { // what stands in the room behind the end is not looked at
		short := []byte(whole)[:n]
		got, e := layout.Parse(short)
		model, f := plainParse(whole[:n])
		if e != f || !sameArchive(got, model) {
			t.Errorf("of %d bytes: %d, want %d", n, e, f)
		}
	}
}

func TestMemorySpans(t *testing.T) { // P0.3
	entries := append(spanned(0, 9, 12, 3, 5).Entries, api.Entry{From: 1, To: 2})
	given := slices.Clone(entries)
	a := api.Archive{Entries: entries[:2], DirAt: 20}
	s, g := layout.Extents(a), layout.Gaps(a)
	other, more := layout.Extents(a), layout.Gaps(a)
	layout.Tight(entries[:2], "")
	if !slices.Equal(entries, given) {
		t.Errorf("what was handed in became %v", entries)
	}
	spoil(other, span(7, 7))
	spoil(more, span(7, 7))
	spoil(entries, api.Entry{})
	if !slices.Equal(s, []api.Span{span(3, 5), span(9, 12)}) || !slices.Equal(g, []api.Span{span(0, 3), span(5, 9), span(12, 20)}) {
		t.Errorf("the answers became %v, %v", s, g)
	}
}

func TestMemoryRender(t *testing.T) { // P0.3
	data := []byte("hi and the room behind")
	x := item("a", "hi")
	x.Bytes, x.At = data[:2], 77
	items := []api.Item{x, item("room", "")}
	file, _ := layout.Render(items[:1], "")
	other, _ := layout.Render(items[:1], "")
	records := []api.Central{x.Central, {}}
	dir, _ := layout.Directory(records[:1], 3, "")
	more, _ := layout.Directory(records[:1], 3, "")
	want := string(more)
	if string(data) != "hi and the room behind" || items[0].Central != x.Central || items[1].Name != "room" || records[0] != x.Central || records[1] != (api.Central{}) {
		t.Errorf("what was handed in is changed: %q, %v, %v", data, items, records)
	}
	spoil(data, 'q')
	spoil(other, 'q')
	spoil(more, 'q')
	if string(file) != known || string(dir) != want {
		t.Errorf("the answers became %q, %q", file, dir)
	}
}

func TestSideBySide(t *testing.T) { // P0.7
	file := frame{gap: "gap", comment: "note"}.lay(plainPart("a", "hi"), latePart("b", "ho", true))
	a, _ := plainParse(file)
	var workers sync.WaitGroup
	for range 8 {
		workers.Go(func() {
			for n := range 200 {
				parses(t, file, a, api.OK)
				refuses(t, file+"x", api.ErrLayEnd)
				extents(t, a, plainExtents(a)...)
				gaps(t, a, plainGaps(a)...)
				renders(t, []api.Item{item("a", "hi")}, "", known, api.OK)
				ends(t, strings.Repeat("x", n)+none, n, api.OK)
			}
		})
	}
	workers.Wait()
}
