package mend_test

import (
	"slices"
	"strings"
	"sync"
	"testing"

	"valise/api"
	"valise/mend"
)

// troubled is a file with most kinds of findings, and what they are.
func troubled() (string, []api.Finding) {
	a, b := stored("a\\", "hi"), stored("b", "bye")
	b.data = "bad"
	f := frame{comment: "note", end: func(x *api.End) { x.Disk = 3 }}
	return f.lay(a, b, a, told(stored("c", "c"), func(c *api.Central) { c.Need = 20 })), []api.Finding{
		at(131, 324, ""), at(134, 134, "a\\"), at(170, 34, "b"), at(134, 229, "a\\"), at(135, 229, "a\\"), at(136, 102, "c"),
	}
}

func TestNilIsEmpty(t *testing.T) { // P0.2
	for _, file := range [][]byte{nil, {}, []byte(known)[:0]} {
		if f, e := mend.Audit(file); len(f) != 0 || e != api.OK {
			t.Errorf("Audit of nothing = %s, %d", brief(f), int(e))
		}
	}
}

// spoil writes over a list and over the room behind its end.
func spoil[T any](list []T, v T) {
	list = list[:cap(list)]
	for i := range list {
		list[i] = v
	}
}

func TestMemory(t *testing.T) { // P0.3
	text, want := troubled()
	file := append([]byte(text), "the room behind"...)[:len(text)]
	found, _ := mend.Audit(file)
	other, _ := mend.Audit(file)
	if string(file[:len(text)+15]) != text+"the room behind" {
		t.Errorf("what was handed in became %q", file[:cap(file)])
	}
	spoil(file, 'q')
	spoil(other, api.Finding{Code: 7})
	if !slices.Equal(found, want) {
		t.Errorf("the answer became %s, want %s", brief(found), brief(want))
	}
	image := known + known
	for n := range image { // what stands in the room behind the end is not looked at
		f, _ := mend.Audit([]byte(image)[:n])
		if want := plainAudit(image[:n]); !slices.Equal(f, want) {
			t.Errorf("of %d bytes: %s, want %s", n, brief(f), brief(want))
		}
	}
}

func TestSideBySide(t *testing.T) { // P0.7
	text, want := troubled()
	saved := rendered(t, stored("c", "c"))
	var workers sync.WaitGroup
	for range 8 {
		workers.Go(func() {
			for range 50 {
				audits(t, text, want...)
				audits(t, known)
				mends(t, text, 4096, 1, saved, strokes(text, saved))
				mends(t, known[:33], 4096, 1, known, strokes(known[:33], known))
			}
		})
	}
	workers.Wait()
}

func TestNoCalls(t *testing.T) { // P0.10: Audit is of bytes, and of a disk's own it changes nothing
	text, want := troubled()
	d := holding(t, text, 4096)
	f, e := mend.Audit(d.Image())
	if !slices.Equal(f, want) || e != api.OK || d.Calls() != 0 || string(d.Image()) != text {
		t.Errorf("Audit = %s, %d", brief(f), int(e))
	}
}

func TestTroubled(t *testing.T) { // what is told of a file does not hang on what is a gap in it
	text, want := troubled()
	audits(t, text, want...)
	far := strings.Repeat(".", 1000)
	a := stored("a", "hi")
	a.gap = far
	audits(t, with(laid(a), 1031, 'x'), at(170, 1000, "a"))
}
