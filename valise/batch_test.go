package valise_test

import (
	"fmt"
	"strings"
	"testing"

	"valise/api"
	"valise/journal"
	"valise/plan"
)

// put, gone and moved are steps.
func put(name, text string) api.Step {
	return api.Step{Kind: api.StepAdd, Name: name, Data: []byte(text), How: stored}
}
func gone(name string) api.Step      { return api.Step{Kind: api.StepDelete, Name: name} }
func moved(from, to string) api.Step { return api.Step{Kind: api.StepRename, Name: from, To: to} }

func TestBatch(t *testing.T) { // P17.13: the steps one behind the other
	for _, x := range []struct {
		steps []api.Step
		want  []string
	}{
		{nil, []string{"a", "1", "b", "2"}},
		{[]api.Step{put("c", "3")}, []string{"a", "1", "b", "2", "c", "3"}},
		{[]api.Step{put("c", "3"), gone("c")}, []string{"a", "1", "b", "2"}},
		{[]api.Step{gone("a"), put("a", "new")}, []string{"a", "new", "b", "2"}},
		{[]api.Step{put("a", "x"), put("a", "y"), put("a", "z")}, []string{"a", "z", "b", "2"}},
		{[]api.Step{moved("a", "q"), moved("b", "a"), moved("q", "b")}, []string{"a", "2", "b", "1"}}, // changed about
		{[]api.Step{gone("a"), gone("b")}, nil},
		{[]api.Step{gone("a"), gone("b"), put("a", "1"), put("b", "2")}, []string{"a", "1", "b", "2"}},
		{[]api.Step{moved("a", "é"), put("a", strings.Repeat("long ", 200)), moved("é", "dir/é")}, []string{"a", strings.Repeat("long ", 200), "b", "2", "dir/é", "1"}},
	} {
		d, v := over(t, filled(t, "note", "a", "1", "b", "2"), 9000)
		goes(t, v.Batch(x.steps...))
		has(t, d, v, x.want...)
		if note, err := v.Note(); note != "note" || err != nil {
			t.Errorf("Note = %q, %v", note, err)
		}
	}
}

func TestBatchRefused(t *testing.T) { // P17.13: the first step that is refused, by its name and reason; nothing is done
	bad, early := put("k", ""), put("k", "")
	bad.How.Method = 3
	early.How.Stamp.Year = 1979
	for _, x := range []struct {
		name   string
		reason api.Errno
		steps  []api.Step
	}{
		{"nowhere", api.ErrAbsent, []api.Step{put("c", "3"), gone("nowhere"), gone("nothing")}},
		{"a", api.ErrAbsent, []api.Step{gone("a"), gone("a")}},
		{"a", api.ErrAbsent, []api.Step{moved("a", "c"), moved("a", "d")}},
		{"a", api.ErrTaken, []api.Step{put("c", ""), moved("a", "c")}},
		{"b", api.ErrTaken, []api.Step{moved("a", "c"), moved("b", "c")}},
		{"a", api.ErrTaken, []api.Step{moved("a", "a")}},
		{"a", api.ErrName, []api.Step{moved("a", "/")}},
		{"nowhere", api.ErrName, []api.Step{moved("nowhere", "/")}},
		{"..", api.ErrName, []api.Step{gone("a"), put("..", "x"), {Kind: 7}}},
		{"", api.ErrName, []api.Step{put("", "x")}},
		{"k", api.ErrArg, []api.Step{put("c", ""), bad}},
		{"k", api.ErrStamp, []api.Step{put("c", ""), early}},
		{"q", api.ErrArg, []api.Step{{Kind: 3, Name: "q"}}},
		{"q", api.ErrArg, []api.Step{gone("a"), {Kind: -1, Name: "q", To: "z"}}},
		{"", api.ErrArg, []api.Step{gone("a"), {Kind: 1 << 62}, gone("a")}},
		{"d", api.ErrMany, []api.Step{put("c", ""), put("d", "far too long")}},
		{"a", api.ErrBig, []api.Step{put("c", ""), put("a", "far too long")}},
	} {
		d := holds(t, filled(t, "", "a", "1", "b", "2"), 9000)
		v := limited(t, d, api.Options{MaxEntries: 3, MaxData: 5})
		still(t, d, func() { fails(t, v.Batch(x.steps...), "batch", x.name, x.reason) })
		has(t, d, v, "a", "1", "b", "2")
	}
}

func TestBatchLimits(t *testing.T) { // P17.13: as many entries as may be, at each step
	d := holds(t, "", 9000)
	v := limited(t, d, api.Options{MaxEntries: 1})
	fails(t, v.Batch(put("a", ""), put("b", ""), gone("a")), "batch", "b", api.ErrMany)
	goes(t, v.Batch(put("a", ""), gone("a"), put("b", ""), put("b", "again"), moved("b", "c")))
	has(t, d, v, "c", "again")
}

func TestBatchNothing(t *testing.T) { // P17.13: what changes nothing in the end makes no changing call
	for _, image := range []string{"", filled(t, "note", "a", "1", "b", "2")} {
		d, v := over(t, image, len(image)) // nor does it need any room
		still(t, d, func() {
			goes(t, v.Batch())
			goes(t, v.Batch([]api.Step{}...))
		})
	}
	image := filled(t, "note", "a", "1", "b", "2")
	d, v := over(t, image, len(image))
	still(t, d, func() {
		goes(t, v.Batch(put("b", "2")))
		goes(t, v.Batch(moved("b", "c"), moved("c", "b")))
		goes(t, v.Batch(put("c", zeros(5000)), gone("c")))
		goes(t, v.Batch(gone("b"), put("b", "2")))
	})
	d, v = over(t, "", 9000)
	goes(t, v.Batch(put("a", ""), gone("a"))) // but an empty file becomes an archive
	if string(d.Image()) != none {
		t.Errorf("the file %q", d.Image())
	}
}

// byHand is the content that the steps' own calls make, one behind the other, where there is room for all.
func byHand(t *testing.T, image string, steps ...api.Step) string {
	t.Helper()
	d, v := over(t, image, most)
	for _, s := range steps {
		x := ask{kind: "step", steps: []api.Step{s}}
		goes(t, x.run(v))
	}
	return string(d.Image())
}

// manySteps are steps of all kinds over the archive that gapped makes.
func manySteps() []api.Step {
	var steps []api.Step
	for i := range 12 {
		steps = append(steps, put(fmt.Sprint("n", i), strings.Repeat(fmt.Sprint(i), i*7)))
	}
	return append(steps, moved("n3", "a/b"), gone("n5"), put("n7", "another"), gone("b"), moved("a", "z"))
}

func TestBatchUpdate(t *testing.T) { // P17.13: the size, and the writes that Diff tells
	for _, image := range []string{"", gapped(t)} {
		steps := manySteps()
		if image == "" {
			steps = steps[:15]
		}
		for n := range len(steps) + 1 {
			last := byHand(t, image, steps[:n]...)
			writes := plan.Diff([]byte(image), []byte(last))
			need, e := journal.Need(len(image), len(last), writes)
			if e != api.OK {
				t.Fatalf("Need: %d", e)
			}
			twin := holds(t, image, need)
			if last != image {
				if e := journal.Update(twin, 1, len(last), writes); e != api.OK {
					t.Fatalf("Update: %d", e)
				}
			}
			d, v := over(t, image, need)
			goes(t, v.Batch(steps[:n]...))
			if string(d.Image()) != last || d.Calls() != twin.Calls() {
				t.Errorf("%d steps: %d bytes by %d calls, want %d by %d", n, d.Size(), d.Calls(), len(last), twin.Calls())
			}
			if last != image {
				d, v = over(t, image, need-1)
				still(t, d, func() { fails(t, v.Batch(steps[:n]...), "batch", "", api.ErrFull) })
			}
		}
	}
}

func TestBatchBetween(t *testing.T) { // P17.13: what lies between the first content and the last may be greater than the disk
	image := filled(t, "", "a", "1", "b", "2")
	steps := []api.Step{put("long", zeros(100000)), moved("a", "z"), gone("long")}
	d, v := over(t, image, 9000)
	fails(t, v.Add("long", steps[0].Data, stored), "add", "long", api.ErrFull)
	goes(t, v.Batch(steps...))
	has(t, d, v, "b", "2", "z", "1")
	if string(d.Image()) != byHand(t, image, steps...) {
		t.Errorf("another content")
	}
	still(t, d, func() { fails(t, v.Batch(steps[0]), "batch", "", api.ErrFull) })
}

func TestBatchPower(t *testing.T) { // P17.12, P17.13: all steps, or none
	steps := manySteps()
	image := gapped(t)
	last := byHand(t, image, steps...)
	for fuse, done := 0, false; !done; fuse++ {
		d, v := over(t, image, 1<<14)
		d.Fuse(fuse)
		err := v.Batch(steps...)
		done = err == nil
		if !done {
			fails(t, err, "batch", "", api.ErrDiskPower)
			silent(t, v, api.ErrDiskPower)
		}
		for size := range 3 {
			for rest := range 4 {
				found, _ := d.Crash(api.Choice{Size: size, Rest: rest})
				opened(t, found)
				if got := string(found.Image()); got != last && (got != image || done) {
					t.Errorf("Fuse(%d): %d bytes behind a crash", fuse, len(got))
				}
			}
		}
	}
}
