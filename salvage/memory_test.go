package salvage_test

import (
	"slices"
	"sync"
	"testing"

	"valise/api"
	"valise/salvage"
)

func TestNilIsEmpty(t *testing.T) { // P0.2
	for _, file := range [][]byte{nil, {}, []byte(known)[:0]} {
		if found, e := salvage.Scan(file); len(found) != 0 || e != api.OK {
			t.Errorf("Scan of nothing = %s, %d", brief(found), e)
		}
		if b, e := salvage.Rebuild(file); string(b) != none || e != api.OK {
			t.Errorf("Rebuild of nothing = %q, %d", b, e)
		}
	}
}

// spoil writes over a list and over the room behind its end.
func spoil[T any](list []T, v T) {
	list = list[:cap(list)]
	for i := range list {
		list[i] = v
	}
}

func TestMemory(t *testing.T) { // P0.3
	x, y := stored("a", "hi"), packed("b", "some text")
	x.Extra = "\x01\x00\x01\x00x"
	whole := laid(x) + late(y, true)
	want := []api.Entry{entry(x, 0, 0), entry(marked(y), len(laid(x)), 16)}
	archive := string(rendered(t, x, y))
	file := append([]byte(whole), "the room behind"...)[:len(whole)]
	found, _ := salvage.Scan(file)
	other, _ := salvage.Scan(file)
	b, _ := salvage.Rebuild(file)
	c, _ := salvage.Rebuild(file)
	if string(file[:len(whole)+15]) != whole+"the room behind" {
		t.Errorf("what was handed in became %q", file[:cap(file)])
	}
	spoil(file, 'q')
	spoil(other, api.Entry{From: 7})
	spoil(c, 'q')
	if !slices.Equal(found, want) || string(b) != archive {
		t.Errorf("the answers became %s, %q", brief(found), b)
	}
	for n := range whole { // what stands in the room behind the end is not looked at
		found, _ := salvage.Scan([]byte(whole)[:n])
		if want := plainScan(whole[:n]); !slices.Equal(found, want) {
			t.Errorf("of %d bytes: %s, want %s", n, brief(found), brief(want))
		}
	}
}

func TestSideBySide(t *testing.T) { // P0.7
	x, y := stored("a", "hi"), packed("b", "some text")
	file := laid(x) + late(y, true)
	archive := string(rendered(t, x, y))
	var workers sync.WaitGroup
	for range 8 {
		workers.Go(func() {
			for n := range 100 {
				finds(t, filled(n)+file, entry(x, n, 0), entry(marked(y), n+33, 16))
				rebuilds(t, filled(n)+file, archive, api.OK)
			}
		})
	}
	workers.Wait()
}
