package tape_test

import (
	"bytes"
	"slices"
	"strings"
	"sync"
	"testing"

	"valise/api"
	"valise/tape"
	"valise/valise"
)

// spoil writes over a list and over the room behind its end.
func spoil(list []byte) {
	list = list[:cap(list)]
	for i := range list {
		list[i] = 'q'
	}
}

// roomy is a list with room behind its end.
func roomy(data string) []byte { return []byte(data + "the room behind")[:len(data)] }

// kept asks that a list that was made by roomy is as it was.
func kept(t *testing.T, list []byte, was string) {
	t.Helper()
	if whole := list[:len(was)+15]; string(list) != was || string(whole) != was+"the room behind" {
		t.Errorf("a list that was handed in has changed: %q", some(whole))
	}
}

func TestNilIsEmpty(t *testing.T) { // P0.2
	put(t, zeros(1024), nil...)
	put(t, zeros(1024), []api.File{}...)
	put(t, zeros(1024), []api.File{a()}[:0]...)
	h := ofA()
	h.size = octal(0, 12)
	folder := h
	folder.name, folder.kind = padded("a/", 100), "5"
	link := h
	link.kind, link.link = "2", padded("to", 100)
	for _, none := range [][]byte{nil, {}, []byte("abc")[:0]} {
		put(t, taped(h.summed()), api.File{Name: "a", Mode: 420, Time: 1, Data: none})
		put(t, taped(folder.summed()), api.File{Name: "a/", Kind: 5, Mode: 420, Time: 1, Data: none})
		put(t, taped(link.summed()), api.File{Name: "a", Kind: 2, Link: "to", Mode: 420, Time: 1, Data: none})
		if files, e := tape.Get(none); files != nil || e != api.ErrTapeShort {
			t.Errorf("Get of nothing = %s, %d", brief(files...), e)
		}
		_, v := over(t, "", 4096)
		if n, err := tape.Import(v, none, stored); n != 0 {
			t.Errorf("Import of nothing = %d, %v", n, err)
		} else {
			fails(t, err, "import", "", api.ErrTapeShort)
		}
	}
}

func TestMemoryOfPut(t *testing.T) { // P0.3
	text := strings.Repeat("text", 200)
	data := roomy(text)
	files := append([]api.File{a(), {Name: "b", Data: data}, {Name: "c", Data: data}}, api.File{Name: "behind"})[:3]
	want, _ := plainPut(files)
	first, _ := tape.Put(files)
	second, _ := tape.Put(files)
	kept(t, data, text)
	if !alike(files[:4], []api.File{a(), {Name: "b", Data: data}, {Name: "c", Data: data}, {Name: "behind"}}) {
		t.Errorf("the files that were handed in have changed")
	}
	spoil(data)
	clear(files)
	spoil(second)
	if string(first) != want {
		t.Errorf("what Put answered has changed")
	}
}

func TestMemoryOfGet(t *testing.T) { // P0.3: nor do two files share any
	whole, want := three()
	for spoilt := range want {
		data := roomy(whole)
		first, _ := tape.Get(data)
		second, _ := tape.Get(data)
		kept(t, data, whole)
		spoil(data)
		spoil(first[spoilt].Data)
		first[spoilt] = want[spoilt]
		if !alike(first, want) {
			t.Errorf("the files share memory with the file %d", spoilt)
		}
		clear(first[:cap(first)])
		if !alike(second, want) {
			t.Errorf("two answers share memory")
		}
	}
}

func TestMemoryOfArchives(t *testing.T) { // P0.3
	files := []api.File{{Name: "a", Mode: 1, Time: 315532800, Data: []byte("some text")}, {Name: "b", Mode: 2, Time: 315532800, Data: []byte("some text")}}
	want := tapeWith(t, files...)
	data := roomy(want)
	d, v := over(t, "", 1<<14)
	n, err := tape.Import(v, data, stored)
	if n != 2 || err != nil {
		t.Fatalf("Import: %d, %v", n, err)
	}
	kept(t, data, want)
	image := string(d.Image())
	spoil(data)
	first, err := tape.Export(v)
	goes(t, err)
	second, err := tape.Export(v)
	goes(t, err)
	spoil(second)
	if string(first) != want || string(d.Image()) != image {
		t.Errorf("what Export answered has changed, or the archive")
	}
	spoil(first)
	exports(t, v, files...)
}

func TestRoomBehind(t *testing.T) { // P0.3: what stands in the room behind a list's end is not looked at
	one, _ := three()
	for n := range 2 * len(one) {
		data := []byte(one + one)
		cut, e := tape.Get(data[:n])
		same, f := tape.Get(bytes.Clone(data[:n]))
		if !alike(cut, same) || e != f {
			t.Errorf("Get of %d bytes: %d, %d", n, e, f)
		}
	}
	text := []byte("text and what stands behind")
	for n := range text {
		h := ofA()
		h.size = octal(n, 12)
		f := a()
		f.Data = text[:n]
		put(t, taped(h.summed(), whole(string(text[:n]))), f)
	}
}

func TestSideBySide(t *testing.T) { // P0.7
	data, files := three()
	shared := []byte(data)
	archived := tapeWith(t, api.File{Name: "a", Mode: 1, Time: 315532800, Data: []byte("some text")})
	same := make([]*valise.Valise, 8)
	for i := range same {
		_, same[i] = over(t, "", 1<<14)
	}
	var workers sync.WaitGroup
	for _, v := range same {
		workers.Go(func() {
			for range 50 {
				if got, e := tape.Get(shared); !alike(got, files) || e != api.OK {
					t.Errorf("Get: %d", e)
				}
				if out, e := tape.Put(files); !slices.Equal(out, shared) || e != api.OK {
					t.Errorf("Put: %d", e)
				}
				if n, err := tape.Import(v, []byte(archived), stored); n != 1 || err != nil {
					t.Errorf("Import: %d, %v", n, err)
				}
				if out, err := tape.Export(v); string(out) != archived || err != nil {
					t.Errorf("Export: %v", err)
				}
			}
		})
	}
	workers.Wait()
}
