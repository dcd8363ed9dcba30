package valise_test

import (
	"strings"
	"testing"

	"valise/api"
	"valise/disk"
	"valise/journal"
	"valise/layout"
	"valise/plan"
	"valise/valise"
)

// sealed is a comment that looks like a journal's seal where its archive has just size bytes, with which it ends.
func sealed(size, length int) string {
	seal, _ := journal.EncodeSeal(api.Seal{State: api.StateClaimed, Old: size - 1024, New: size - 1024})
	comment := []byte(strings.Repeat("c", length))
	place := 512*(size/512) - 512
	at := length - (size - place)
	copy(comment[at:], seal)
	clear(comment[at+512:])
	return string(comment)
}

// ending is a comment with which another end record would be found.
const ending = "a comment, and then " + none

func TestDelete(t *testing.T) { // P17.10
	d, v := over(t, gapped(t), 1<<14)
	goes(t, v.Delete("a"))
	has(t, d, v, "b", strings.Repeat("b", 700))
	fails(t, v.Delete("a"), "delete", "a", api.ErrAbsent)
	goes(t, v.Delete("b"))
	has(t, d, v)
	sized(t, v, 26) // the note stays
}

func TestRename(t *testing.T) { // P17.10
	how := api.How{Method: 8, Level: 3, Stamp: api.Stamp{Year: 2001, Month: 2, Day: 3, Hour: 4, Minute: 5, Second: 6}, Mode: 420, Note: "its note"}
	for _, to := range []string{"n", "dir/n", "dir/", "é", strings.Repeat("n", 65535)} {
		d, v := over(t, gapped(t), 1<<19)
		goes(t, v.Add("x", []byte("its text"), how))
		want, _ := v.Stat("x")
		goes(t, v.Rename("x", to))
		want.Name = to
		if got, err := v.Stat(to); got != want || err != nil {
			t.Errorf("Stat = %v, %v, want %v", got, err, want)
		}
		has(t, d, v, "a", "hi", "b", strings.Repeat("b", 700), to, "its text")
		wide := 0
		if to == "é" {
			wide = 2048
		}
		if x := recordOf(t, d.Image(), to); x.Flags != wide || x.Made != 788 {
			t.Errorf("the record %v", x)
		}
	}
}

func TestRenameRefused(t *testing.T) { // P17.10: in this order
	d, v := over(t, filled(t, "", "a", "1", "b", "2"), 1<<14)
	still(t, d, func() {
		for _, to := range []string{"", "/", "..", "a//b", "\xff", strings.Repeat("n", 65536)} {
			for _, from := range []string{"a", "nowhere", "", to} {
				fails(t, v.Rename(from, to), "rename", from, api.ErrName)
			}
		}
		for _, from := range []string{"nowhere", "", "/", "A"} {
			fails(t, v.Rename(from, "a"), "rename", from, api.ErrAbsent)
			fails(t, v.Rename(from, "new"), "rename", from, api.ErrAbsent)
		}
		fails(t, v.Rename("nowhere", "nowhere"), "rename", "nowhere", api.ErrAbsent)
		fails(t, v.Rename("a", "b"), "rename", "a", api.ErrTaken)
		fails(t, v.Rename("a", "a"), "rename", "a", api.ErrTaken)
	})
}

func TestSetNote(t *testing.T) { // P17.10
	d, v := over(t, filled(t, "", "a", "hi"), 1<<19)
	for _, note := range []string{"a note", strings.Repeat("n", 65535), "\x00\xff\x80", "", zeros(1023), ending[:len(ending)-1]} {
		goes(t, v.SetNote(note))
		if _, got := mapOf(t, d, v); got != note {
			t.Errorf("Note = %s, want %s", short(got), short(note))
		}
		sized(t, v, 102+len(note))
		still(t, d, func() { goes(t, v.SetNote(note)) }) // it stands there already
	}
	still(t, d, func() {
		fails(t, v.SetNote(strings.Repeat("n", 65536)), "setnote", "", api.ErrArg)
		fails(t, v.SetNote(strings.Repeat("n", 1<<20)), "setnote", "", api.ErrArg)
		fails(t, v.SetNote(ending), "setnote", "", api.ErrNote)
		fails(t, v.SetNote(zeros(1024)), "setnote", "", api.ErrNote)
	})
	d, v = over(t, "", 1<<14)
	goes(t, v.SetNote(""))
	if string(d.Image()) != none {
		t.Errorf("the file %q", d.Image())
	}
	for n := range 10 { // of fewer than ten bytes none is refused, whatever they are
		for _, note := range []string{none[:n], none[22-n:], zeros(n), strings.Repeat("PK\x05\x06", 3)[:n]} {
			goes(t, v.SetNote(note))
			goes(t, v.Add("a", []byte(note), stored))
			goes(t, v.Delete("a"))
		}
	}
}

func TestCompact(t *testing.T) { // P17.10, P0.15
	d, v := over(t, "", 1<<14)
	goes(t, v.Compact())
	if string(d.Image()) != none {
		t.Errorf("the file %q", d.Image())
	}
	still(t, d, func() { goes(t, v.Compact()) })
	d, v = over(t, gapped(t), 1<<14)
	before, _ := mapOf(t, d, v)
	goes(t, v.Compact())
	has(t, d, v, "a", "hi", "b", strings.Repeat("b", 700))
	after, note := mapOf(t, d, v)
	if note != "note" || before["a"] != after["a"] || before["b"] != after["b"] {
		t.Errorf("%v, %q", after, note)
	}
	sized(t, v, 30+46+2+2+30+46+2+700+22+4)
	still(t, d, func() { goes(t, v.Compact()) })
}

// TestByPlan holds that each change is just the plan's, carried out by one update.
func TestByPlan(t *testing.T) { // P17.10: the bytes, and the changing calls
	for _, x := range []struct {
		run  func(*valise.Valise) error
		plan func([]byte, api.Archive) (api.Plan, api.Errno)
	}{
		{func(v *valise.Valise) error { return v.Delete("a") }, func(f []byte, a api.Archive) (api.Plan, api.Errno) { return plan.Delete(f, a, "a", 9000) }},
		{func(v *valise.Valise) error { return v.Delete("b") }, func(f []byte, a api.Archive) (api.Plan, api.Errno) { return plan.Delete(f, a, "b", 9000) }},
		{func(v *valise.Valise) error { return v.Rename("b", "é") }, func(f []byte, a api.Archive) (api.Plan, api.Errno) { return plan.Rename(f, a, "b", "é", 9000) }},
		{func(v *valise.Valise) error { return v.SetNote("new note") }, func(f []byte, a api.Archive) (api.Plan, api.Errno) { return plan.Note(f, a, "new note", 9000) }},
		{func(v *valise.Valise) error { return v.Compact() }, func(f []byte, a api.Archive) (api.Plan, api.Errno) { return plan.Compact(f, a, 9000) }},
		{func(v *valise.Valise) error { return v.Add("n", nil, stored) }, func(f []byte, a api.Archive) (api.Plan, api.Errno) {
			c := api.Central{Made: 788, Local: api.Local{Need: 10, Date: 33, Name: "n"}}
			return plan.Add(f, a, c, nil, 9000)
		}},
	} {
		d, v := over(t, gapped(t), 9000)
		twin := holds(t, gapped(t), 9000)
		goes(t, x.run(v))
		a, _ := layout.Parse(twin.Image())
		p, e := x.plan(twin.Image(), a)
		if e != api.OK {
			t.Fatalf("the plan: %d", e)
		}
		if e := journal.Update(twin, 1, p.Size, p.Writes); e != api.OK || string(d.Image()) != string(twin.Image()) || d.Calls() != twin.Calls() {
			t.Errorf("Update = %d; %d bytes by %d calls, want %d by %d", e, d.Size(), d.Calls(), twin.Size(), twin.Calls())
		}
	}
}

func TestFull(t *testing.T) { // P17.9, P17.10: as much room as the journal needs, to the byte
	for _, x := range changes() {
		if x.call == "batch" {
			continue
		}
		image := gapped(t)
		large := holds(t, image, 9000)
		goes(t, x.run(opened(t, large)))
		least := 0
		for capacity := len(image); least == 0; capacity++ {
			d, v := over(t, image, capacity)
			if err := x.run(v); err == nil {
				least = capacity
			} else {
				fails(t, err, x.call, x.name, api.ErrFull)
				if d.Calls() != 0 || string(d.Image()) != image {
					t.Errorf("refused, %s makes %d changing calls", x.call, d.Calls())
				}
				has(t, d, v, "a", "hi", "b", strings.Repeat("b", 700))
			}
		}
		if least < len(image)+1024 {
			t.Errorf("%s goes well with %d bytes of room", x.call, least)
		}
	}
}

func TestNoRoomInPlace(t *testing.T) { // P17.9: it is planned for the disk's own capacity: moved, where only that has room
	d, v := over(t, filled(t, "", "a", strings.Repeat("a", 600), "x", strings.Repeat("x", 293), "b", ""), 1<<14)
	goes(t, v.Delete("x"))
	image, text := string(d.Image()), strings.Repeat("c", 966)
	puts(t, v, "c", text)
	tight := 631 + 31 + 997 + 3*47 + 22
	sized(t, v, tight+324)
	least := 0
	for capacity := 5000; least == 0; capacity-- {
		d, v := over(t, image, capacity)
		puts(t, v, "c", text)
		if d.Size() == tight {
			least = capacity
		}
		has(t, d, v, "a", strings.Repeat("a", 600), "b", "", "c", text)
	}
	if least < tight+1024 {
		t.Errorf("moved with %d bytes of room", least)
	}
}

func TestNoteInTheWay(t *testing.T) { // P17.9, P17.10: ErrNote of a comment that stands there already
	const length = 1100
	x, last := item("x", strings.Repeat("x", 100)), item("last", "")
	size := 131 + 47 + 22 + length // of x alone
	whole, e := layout.Render([]api.Item{x, last}, sealed(size, length))
	if e != api.OK {
		t.Fatalf("Render: %d", e)
	}
	d, v := over(t, string(whole), 1<<14)
	still(t, d, func() {
		fails(t, v.Delete("last"), "delete", "last", api.ErrNote)
		fails(t, v.Batch(api.Step{Kind: api.StepDelete, Name: "last"}), "batch", "last", api.ErrNote)
		fails(t, v.Batch(api.Step{Kind: api.StepDelete, Name: "x"}, api.Step{Kind: api.StepDelete, Name: "last"}, api.Step{Name: "x", Data: x.Bytes, How: stored}), "batch", "x", api.ErrNote)
	})
	goes(t, v.Delete("x"))
	still(t, d, func() { fails(t, v.Rename("last", strings.Repeat("n", 51)), "rename", "last", api.ErrNote) }) // twice 51, 30 and 46: as long as the extent of x and its record
	goes(t, v.Delete("last"))
	still(t, d, func() { fails(t, v.Add("x", x.Bytes, stored), "add", "x", api.ErrNote) })
	goes(t, v.Add("x", x.Bytes[1:], stored))
	goes(t, v.SetNote("another"))
	goes(t, v.Add("x", x.Bytes, stored))
	has(t, d, v, "x", string(x.Bytes))
}

func TestPower(t *testing.T) { // P17.12: at each changing call of each change
	for _, x := range changes() {
		calls := 0
		for fuse := 0; fuse <= calls; fuse++ {
			d, v := over(t, gapped(t), 9000)
			found := v.Found()
			d.Fuse(fuse)
			err := x.run(v)
			if err == nil {
				break
			}
			fails(t, err, x.call, x.name, api.ErrDiskPower)
			calls = d.Calls() + 1
			image := string(d.Image())
			silent(t, v, api.ErrDiskPower)
			if d.Calls() != fuse || string(d.Image()) != image || v.Found() != found {
				t.Errorf("%d changing calls behind Fuse(%d), Found %v", d.Calls(), fuse, v.Found())
			}
			goes(t, v.Close())
			silent(t, v, api.ErrClosed)
		}
		if calls < 10 {
			t.Errorf("%s makes %d changing calls", x.call, calls)
		}
	}
}

func TestFuseUnmet(t *testing.T) { // P17.11, P17.12: no changing call, no power that fails
	d, v := over(t, filled(t, "note", "a", "hi"), 9000)
	d.Fuse(0)
	goes(t, v.Compact())
	goes(t, v.SetNote("note"))
	goes(t, v.Add("a", []byte("hi"), stored))
	goes(t, v.Batch())
	fails(t, v.Delete("b"), "delete", "b", api.ErrAbsent)
	fails(t, v.Add("b", []byte(zeros(9000)), stored), "add", "b", api.ErrFull)
	has(t, d, v, "a", "hi")
	if !d.Alive() {
		t.Errorf("the disk is dead")
	}
}

func TestCount(t *testing.T) { // P16.7: the updates of one valise are counted, those that do nothing are not
	d, v := over(t, "", 9000)
	puts(t, v, "a", "1", "b", "2")
	goes(t, v.Compact())
	goes(t, v.Batch(api.Step{Kind: api.StepDelete, Name: "a"}, api.Step{Kind: api.StepRename, Name: "b", To: "c"}))
	d.Fuse(5)
	fails(t, v.Delete("c"), "delete", "c", api.ErrDiskPower)
	found, _ := d.Crash(api.Choice{Rest: 1})
	if got := opened(t, found).Found(); got.State != api.StateArmed || got.Seq != 4 {
		t.Errorf("Found %v", got)
	}
	var none *disk.Disk
	_, err := valise.Open(none, api.Options{})
	fails(t, err, "open", "", api.ErrArg)
}
