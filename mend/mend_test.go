package mend_test

import (
	"strings"
	"testing"

	"valise/api"
	"valise/disk"
	"valise/journal"
	"valise/mend"
	"valise/plan"
)

func TestMendArg(t *testing.T) { // P26.3
	if n, e := mend.Mend(nil); n != 0 || e != api.ErrArg {
		t.Errorf("Mend of no disk = %d, %d", n, int(e))
	}
	for _, image := range []string{"", known, "abc", known + zeros(1024)} { // ahead of all that the file says
		d := holding(t, image, 4096)
		d.Crash(api.Choice{})
		if n, e := mend.Mend(d); n != 0 || e != api.ErrDiskPower || string(d.Image()) != image {
			t.Errorf("Mend of a dead disk = %d, %d", n, int(e))
		}
	}
}

func TestMendOpens(t *testing.T) { // P26.3: what opens is left alone, with gaps, a comment, descriptors, damaged entries
	a, b := stored("a", "hi"), late(packed("b", "bye"), true)
	b.gap = "a gap"
	for _, file := range []string{
		"", none, known,
		with(known, 31, 'x'),
		frame{comment: "note", gap: "more"}.lay(a, b),
		frame{order: []int{1, 0}}.lay(a, b),
		laid(altered(packed("c", "x"), func(c *api.Central) { c.Sum ^= 1 })),
	} {
		entries := strings.Count(file, "PK\x01\x02")
		mends(t, file, len(file), entries, file, 0)
		mends(t, file, most, entries, file, 0)
	}
	for _, file := range []string{"", none, known, with(known, 31, 'x')} { // recovered as Open does it
		entries := strings.Count(file, "PK\x01\x02")
		for _, state := range states {
			calls := 2
			if state == api.StateArmed {
				calls += 1 + min(len(file), 1) // the saved byte, if there is one
			}
			image := sealed(state, file, len(file))
			mends(t, image, len(image), entries, file, calls)
		}
		mends(t, file+zeros(1024), 4096, entries, file, 2)
	}
}

func TestMendOpenPower(t *testing.T) { // P26.3: the power fails in Open
	for _, state := range states {
		image := sealed(state, known, 102)
		d := holding(t, image, 4096)
		if n, e := mend.Mend(d); n != 1 || e != api.OK {
			t.Fatalf("Mend = %d, %d", n, int(e))
		}
		for fuse := range d.Calls() {
			d := holding(t, image, 4096)
			d.Fuse(fuse)
			if n, e := mend.Mend(d); n != 0 || e != api.ErrDiskPower || d.Calls() != fuse {
				t.Errorf("state %d, fuse %d: Mend = %d, %d", state, fuse, n, int(e))
			}
		}
	}
}

func TestMendRebuilds(t *testing.T) { // P26.4: what can be saved, as Rebuild lays it down
	a, b, z := stored("a", "hi"), packed("b", "some text, some text"), stored("a", "newer")
	c := late(packed("c", "late"), true)
	plain := rendered(t, a, b)
	lost := plain[:strings.Index(plain, "PK\x01\x02")]
	mends(t, lost, most, 2, plain, strokes(lost, plain))
	mends(t, "seven b"+lost, most, 2, plain, strokes("seven b"+lost, plain))
	mends(t, lost[:len(lost)-1], most, 1, known, strokes(lost[:len(lost)-1], known))
	mends(t, lost+z.extent(), most, 2, rendered(t, b, z), strokes(lost+z.extent(), rendered(t, b, z))) // the last one of a name
	file := lost + c.extent() + "behind"
	want := rendered(t, a, b, packed("c", "late"))
	mends(t, file, most, 3, want, strokes(file, want))
	file = frame{end: func(x *api.End) { x.Disk = 1 }}.lay(told(a, func(c *api.Central) { c.Comment = "lost" }), stored("b", "bye"))
	want = rendered(t, a, stored("b", "bye"))
	mends(t, file, most, 2, want, strokes(file, want))
	file = laid(a, altered(stored("b", "bye"), func(c *api.Central) { c.Sum ^= 1 }), told(stored("c", "c"), func(c *api.Central) { c.Size = 2 }))
	want = rendered(t, a, stored("c", "c")) // a damaged one is not saved where the directory is not read
	mends(t, file, most, 2, want, strokes(file, want))
}

func TestMendNothing(t *testing.T) { // P26.4: where nothing can be saved
	for _, file := range []string{"x", "PK\x03\x04", known[33:], strings.Repeat("junk", 300), zeros(23)} {
		mends(t, file, 1<<14, 0, none, strokes(file, none))
	}
}

func TestMendRecovers(t *testing.T) { // P26.4: ahead of all else what is no archive is recovered, again and again
	for _, content := range []string{"abc", known[:33], known + "x"} {
		want, entries := none, 0
		if len(content) > 3 {
			want, entries = known, 1
		}
		mends(t, content+zeros(3*1024), 8192, entries, want, 2+strokes(content, want))
		for _, state := range states {
			calls := 2
			if state == api.StateArmed {
				calls = 4
			}
			image := sealed(state, content, len(content))
			mends(t, image, 8192, entries, want, calls+strokes(content, want))
			again := sealed(api.StateClaimed, image, len(image))
			mends(t, again, 8192, entries, want, 2+calls+strokes(content, want))
			again = sealed(api.StateDone, again, len(again)) + zeros(2*1024)
			mends(t, again, 1<<14, entries, want, 2+2+2+calls+strokes(content, want))
		}
	}
}

func TestMendIsSame(t *testing.T) { // P26.4: what is recovered is what would be laid down
	for _, content := range []string{none, known} {
		image := sealed(api.StateClaimed, content, len(content))
		image = sealed(api.StateArmed, image, len(image)) // recovered once it is a file that Open would not leave
		mends(t, image, len(image), strings.Count(content, "PK\x01\x02"), content, 4+2)
	}
	image := sealed(api.StateClaimed, "", 0)
	image = sealed(api.StateClaimed, image, len(image))
	mends(t, image, len(image), 0, none, 2+2+strokes("", none)) // no bytes are not what would be laid down
	gap := "...." + known[:33]
	image = sealed(api.StateClaimed, gap, len(gap))
	image = sealed(api.StateClaimed, image, len(image))
	mends(t, image, len(image), 1, known, 2+2+strokes(gap, known))
}

func TestMendFull(t *testing.T) { // P26.4: to the byte
	lost := known[:33]
	for _, file := range []string{"abc", lost, "seven b" + lost, strings.Repeat("x", 5000), strings.Repeat("x", 5000) + lost} {
		want := none
		if strings.Contains(file, lost) {
			want = known
		}
		n, _ := journal.Need(len(file), len(want), plan.Diff([]byte(file), []byte(want)))
		refuses(t, file, n-1, api.ErrFull)
		refuses(t, file, len(file), api.ErrFull)
		mends(t, file, n, len(want)/102, want, strokes(file, want))
	}
	refuses(t, strings.Repeat("x", most), most, api.ErrFull) // no disk is so great
}

func TestMendFullRecovered(t *testing.T) { // P26.4: what was recovered ahead of it stays so
	image := "abc" + zeros(1024)
	d := holding(t, image, 2050)
	if n, e := mend.Mend(d); n != 0 || e != api.ErrFull || string(d.Image()) != "abc" || d.Calls() != 2 {
		t.Errorf("Mend = %d, %d: %q, %d calls", n, int(e), d.Image(), d.Calls())
	}
}

func TestMendRefused(t *testing.T) { // P26.4: Rebuild's refusal, ahead of the room
	var file strings.Builder
	for i := range 65536 {
		name := string(rune('A'+i%26)) + string(rune('A'+i/26%26)) + string(rune('A'+i/676%26)) + string(rune('A'+i/17576))
		file.WriteString(stored(name, "").extent())
	}
	refuses(t, file.String(), most, api.ErrRecWide)
	refuses(t, file.String(), file.Len(), api.ErrRecWide)
	x := stored("a", strings.Repeat("x", most-99)) // with its record it would be a byte too much
	refuses(t, x.extent(), most, api.ErrArg)
}

func TestMendPower(t *testing.T) { // P26.4: in a Recover, or in the Update
	image := sealed(api.StateArmed, "abc", 3)
	d := holding(t, image, 4096)
	mend.Mend(d)
	if d.Calls() != 4+strokes("abc", none) {
		t.Fatalf("%d calls", d.Calls())
	}
	for fuse := range d.Calls() {
		d := holding(t, image, 4096)
		d.Fuse(fuse)
		if n, e := mend.Mend(d); n != 0 || e != api.ErrDiskPower || d.Calls() != fuse {
			t.Errorf("fuse %d: Mend = %d, %d, %d calls", fuse, n, int(e), d.Calls())
		}
	}
}

func TestMendIsUpdate(t *testing.T) { // P26.4: the changing calls, and what every crash leaves of them, are Update's with the number 0
	for _, file := range []string{"abc", known[:33], "...." + known[:33], strings.Repeat("x", 700) + known[:33]} {
		want := none
		if strings.Contains(file, known[:33]) {
			want = known
		}
		for fuse := range strokes(file, want) + 1 {
			d, twin := holding(t, file, 4096), holding(t, file, 4096)
			d.Fuse(fuse)
			twin.Fuse(fuse)
			mend.Mend(d)
			journal.Update(twin, 0, len(want), plan.Diff([]byte(file), []byte(want)))
			for size := range 3 {
				for rest := range 4 {
					c := api.Choice{Size: size, Rest: rest}
					a, _ := d.Crash(c)
					b, _ := twin.Crash(c)
					if string(a.Image()) != string(b.Image()) {
						t.Fatalf("fuse %d: a crash that keeps %v leaves %d bytes, want %d", fuse, c, a.Size(), b.Size())
					}
				}
			}
		}
	}
}

func TestMendUnsynced(t *testing.T) { // P26.3: what opens is not even synced
	d, _ := disk.New(nil, 4096)
	d.WriteAt(0, []byte(known))
	if n, e := mend.Mend(d); n != 1 || e != api.OK || d.Calls() != 1 {
		t.Errorf("Mend = %d, %d, %d calls", n, int(e), d.Calls())
	}
	if lost, _ := d.Crash(api.Choice{}); lost.Size() != 0 {
		t.Errorf("a crash leaves %d bytes", lost.Size())
	}
}
