package plan_test

import (
	"slices"
	"strings"
	"sync"
	"testing"

	"valise/api"
	"valise/plan"
)

// spoil writes over a list and over the room behind its end.
func spoil[T any](list []T, v T) {
	list = list[:cap(list)]
	for i := range list {
		list[i] = v
	}
}

// spoilPlan writes over all that a plan holds.
func spoilPlan(p api.Plan) {
	for _, w := range p.Writes {
		spoil(w.Data, 'q')
	}
	spoil(p.Writes, api.Write{At: 7})
}

// roomy is a text as a list with room behind its end.
func roomy(s string) []byte { return append([]byte(s), "the room behind"...)[:len(s)] }

// gapped is an archive that has calls of all ways: into a gap, at the end, moved, none.
var gapped = frame{comment: "note", order: []int{2, 0, 1}}.lay(plainPart("a", "hi"), behind(40, latePart("b", "ho", true)), behind(9, plainPart("c", strings.Repeat("c", 900))))

// allCalls are calls over gapped that answer a plan.
func allCalls() []ask {
	return []ask{adds("n", "new"), adds("n", strings.Repeat("n", 99)), adds("c", "x"), adds("a", ""), deletes("a"), deletes("c"), renames("a", "n"), renames("c", "é"), renames("b", "n"), notes("another"), notes(""), compacts()}
}

func TestNilIsEmpty(t *testing.T) { // P0.2
	for _, file := range [][]byte{nil, {}, []byte("room")[:0]} {
		for _, entries := range [][]api.Entry{nil, {}, make([]api.Entry, 0, 3)} {
			a := api.Archive{Entries: entries}
			for _, packed := range [][]byte{nil, {}, []byte("room")[:0]} {
				p, e := plan.Add(file, a, recordOf("x", 0), packed, most)
				if e != api.OK || p.Size != 100 || len(p.Writes) != 1 || len(p.Writes[0].Data) != 100 {
					t.Errorf("Add of nothing to nothing = %s, %d", brief(p), e)
				}
			}
			if p, e := plan.Note(file, a, "", most); e != api.OK || p.Size != 22 {
				t.Errorf("Note over nothing = %s, %d", brief(p), e)
			}
			if p, e := plan.Compact(file, a, most); e != api.OK || p.Size != 22 {
				t.Errorf("Compact of nothing = %s, %d", brief(p), e)
			}
			if _, e := plan.Delete(file, a, "x", most); e != api.ErrAbsent {
				t.Errorf("Delete from nothing = %d", e)
			}
			if _, e := plan.Rename(file, a, "x", "y", most); e != api.ErrAbsent {
				t.Errorf("Rename in nothing = %d", e)
			}
		}
		if l := plan.Diff(file, nil); len(l) != 0 {
			t.Errorf("Diff of nothing and nothing: %d writes", len(l))
		}
		if l := plan.Diff(file, []byte("x")); len(l) != 1 {
			t.Errorf("Diff of nothing and x: %d writes", len(l))
		}
		if l := plan.Diff([]byte("x"), file); len(l) != 0 {
			t.Errorf("Diff of x and nothing: %d writes", len(l))
		}
	}
	for _, gaps := range [][]api.Span{nil, {}, make([]api.Span, 0, 3)} {
		if plan.Fit(gaps, 0) != -1 {
			t.Errorf("Fit finds a gap in nothing")
		}
	}
}

func TestMemoryPlans(t *testing.T) { // P0.3, P15.13
	for _, x := range allCalls() {
		file, packed := roomy(gapped), roomy(x.packed)
		a := parsed(t, gapped)
		a.Entries = append(a.Entries, api.Entry{From: 77})[:len(a.Entries)]
		given := slices.Clone(a.Entries[:cap(a.Entries)])
		call := func() (api.Plan, api.Errno) {
			if x.kind == "add" {
				return plan.Add(file, a, x.record, packed, most)
			}
			return x.call(file, a)
		}
		p, e := call()
		q, f := call()
		want, g := plainPlan(gapped, a, x)
		if e != api.OK || f != api.OK || g != api.OK {
			t.Fatalf("%v = %d, %d, %d", x, e, f, g)
		}
		if !slices.Equal(given, a.Entries[:cap(a.Entries)]) || string(file[:cap(file)][:len(gapped)+15]) != gapped+"the room behind" || string(packed[:cap(packed)][:len(x.packed)+15]) != x.packed+"the room behind" {
			t.Errorf("%v changes what it was given", x)
		}
		spoilPlan(q)
		spoil(file, 'q')
		spoil(packed, 'q')
		spoil(a.Entries, api.Entry{})
		if !samePlan(p, want) {
			t.Errorf("%v: the plan became %s", x, brief(p))
		}
		for i, w := range p.Writes { // no two lists of one answer share memory, nor the room behind them
			if string(w.Data) != string(want.Writes[i].Data) {
				t.Errorf("%v: two writes share memory", x)
			}
			spoil(w.Data, 'q')
		}
	}
}

func TestMemoryDiff(t *testing.T) { // P0.3, P15.13
	old, next := roomy("0123456789abcdefghij"), roomy("X123456789abcdeYghijZ")
	p, q := plan.Diff(old, next), plan.Diff(old, next)
	if string(old[:cap(old)][:35]) != "0123456789abcdefghijthe room behind" || string(next[:cap(next)][:36]) != "X123456789abcdeYghijZthe room behind" {
		t.Errorf("Diff changes what it was given")
	}
	for _, w := range q {
		spoil(w.Data, 'q')
	}
	spoil(old, 'q')
	spoil(next, 'q')
	if len(p) != 2 || string(p[0].Data) != "X" || string(p[1].Data) != "YghijZ" {
		t.Fatalf("the answer became %s", brief(api.Plan{Writes: p}))
	}
	spoil(p[0].Data, 'q')
	if string(p[1].Data) != "YghijZ" {
		t.Errorf("two writes share memory")
	}
}

func TestMemoryFit(t *testing.T) { // P0.3
	gaps := []api.Span{{From: 4, To: 7}, {From: 9, To: 14}}
	plan.Fit(gaps, 5)
	if !slices.Equal(gaps, []api.Span{{From: 4, To: 7}, {From: 9, To: 14}}) {
		t.Errorf("Fit changes the gaps: %v", gaps)
	}
}

func TestSideBySide(t *testing.T) { // P0.7, P15.13: many calls at a time over the same file
	file, a := []byte(gapped), parsed(t, gapped)
	var all sync.WaitGroup
	for range 8 {
		all.Go(func() {
			for range 20 {
				for _, x := range allCalls() {
					p, e := x.call(file, a)
					if want, f := plainPlan(gapped, a, x); e != f || !samePlan(p, want) {
						t.Errorf("%v = %s, %d, want %s, %d", x, brief(p), e, brief(want), f)
					}
				}
			}
		})
	}
	all.Wait()
}
