package valise_test

import (
	"maps"
	"math/rand"
	"strings"
	"testing"

	"valise/api"
	"valise/disk"
	"valise/valise"
)

// crashes tells every file that may be found behind a crash of a small disk, and how often. No sector gets more than two pieces between two Syncs here, and no more than one size change.
func crashes(t *testing.T, d *disk.Disk) map[string]int {
	t.Helper()
	sectors := (d.Size() + 511) / 512
	ways := 1
	for range sectors {
		ways *= 3
	}
	all := map[string]int{}
	for keep := range ways {
		c := api.Choice{Sectors: make([]int, sectors), Rest: 9}
		for i := range c.Sectors {
			c.Sectors[i] = keep % 3
			keep /= 3
		}
		for c.Size = range 2 {
			found, e := d.Crash(c)
			if e != api.OK {
				t.Fatalf("Crash = %d", e)
			}
			all[string(found.Image())]++
		}
	}
	return all
}

// openings goes through all Opens over a file: those that come through, and those in which the power fails, with all that is then found, as often as one likes. All of them must lead to this content. seen are the files gone through already.
func openings(t *testing.T, image, content string, seen map[string]int) {
	t.Helper()
	work := []string{image}
	for len(work) > 0 {
		image, work = work[0], work[1:]
		if seen[image]++; seen[image] > 1 {
			continue
		}
		d, _ := over(t, image, 9000)
		if string(d.Image()) != content {
			t.Fatalf("a file of %d bytes is opened as %d bytes, not as %d", len(image), d.Size(), len(content))
		}
		for fuse := range d.Calls() {
			d := holds(t, image, 9000)
			d.Fuse(fuse)
			_, err := valise.Open(d, api.Options{})
			fails(t, err, "open", "", api.ErrDiskPower)
			for next := range crashes(t, d) {
				work = append(work, next)
			}
		}
	}
}

// change is a call that changes, and the word and name of its faults.
type change struct {
	call, name string
	run        func(*valise.Valise) error
}

// changes are calls of all kinds over the archive that gapped makes.
func changes() []change {
	long := []byte(strings.Repeat("new", 100))
	return []change{
		{"add", "n", func(v *valise.Valise) error { return v.Add("n", []byte("new"), stored) }},
		{"add", "n", func(v *valise.Valise) error { return v.Add("n", long, packed) }},
		{"add", "b", func(v *valise.Valise) error { return v.Add("b", long, stored) }},
		{"delete", "a", func(v *valise.Valise) error { return v.Delete("a") }},
		{"delete", "b", func(v *valise.Valise) error { return v.Delete("b") }},
		{"rename", "b", func(v *valise.Valise) error { return v.Rename("b", "dir/é") }},
		{"setnote", "", func(v *valise.Valise) error { return v.SetNote("another") }},
		{"compact", "", func(v *valise.Valise) error { return v.Compact() }},
		{"batch", "", func(v *valise.Valise) error {
			return v.Batch(api.Step{Name: "n", Data: long, How: stored}, api.Step{Kind: api.StepRename, Name: "a", To: "z"}, api.Step{Kind: api.StepDelete, Name: "b"})
		}},
	}
}

// TestAllCrashes goes through all crashes of calls of each kind, and of all Opens that follow.
func TestAllCrashes(t *testing.T) { // P0.12, P17.12
	for _, x := range changes() {
		for _, content := range []string{"", filled(t, "", "a", "hi", "b", "ho"), gapped(t)} {
			d, v := over(t, content, 9000)
			if x.run(v) != nil { // refused: there is no such entry
				continue
			}
			calls, next := d.Calls(), string(d.Image())
			before, after := map[string]int{}, map[string]int{}
			for fuse := range calls {
				d, v := over(t, content, 9000)
				d.Fuse(fuse)
				fails(t, x.run(v), x.call, x.name, api.ErrDiskPower)
				silent(t, v, api.ErrDiskPower)
				for image := range crashes(t, d) {
					found, _ := over(t, image, 9000)
					if string(found.Image()) == content {
						openings(t, image, content, before)
					} else {
						openings(t, image, next, after)
					}
				}
			}
			lost, _ := d.Crash(api.Choice{})
			kept := opened(t, lost) // what had answered is kept
			if string(lost.Image()) != next {
				t.Errorf("%s %q: %d bytes behind a crash", x.call, x.name, lost.Size())
			}
			mapOf(t, lost, kept)
			if len(before) < 3 && calls > 0 || len(after) < 2 && calls > 0 {
				t.Errorf("%s %q: %d files lead to the old content, %d to the new one", x.call, x.name, len(before), len(after))
			}
		}
	}
}

// crashed draws what a crash keeps.
func crashed(from *rand.Rand) api.Choice {
	c := api.Choice{Size: from.Intn(3), Rest: from.Intn(4)}
	for range from.Intn(12) {
		c.Sectors = append(c.Sectors, from.Intn(4))
	}
	return c
}

func TestLongLife(t *testing.T) { // P0.12: one file through many changes and crashes
	from := rand.New(rand.NewSource(12))
	d := holds(t, "", 1<<15)
	m := newMap()
	var kept [4]int
	for range 2500 {
		v := opened(t, d)
		x := drawn(from)
		next, reason := m.behind(x, api.Options{})
		fuse := from.Intn(24)
		d.Fuse(fuse)
		err := x.run(v)
		switch {
		case err == nil && reason == api.OK:
			m = next
			kept[0]++
		case reason != api.OK:
			fails(t, err, x.call(), x.faulty, reason)
			next = m
			kept[1]++
		default:
			fails(t, err, x.call(), x.name(), api.ErrDiskPower)
		}
		d, _ = d.Crash(crashed(from))
		for range from.Intn(5) {
			d.Fuse(from.Intn(5))
			valise.Open(d, api.Options{})
			d, _ = d.Crash(crashed(from))
		}
		all, note := mapOf(t, d, opened(t, d))
		switch {
		case maps.Equal(all, m.entries) && note == m.note:
			kept[2]++
		case maps.Equal(all, next.entries) && note == next.note:
			kept[3]++
			m = next
		default:
			t.Fatalf("behind %v at Fuse(%d): neither map", x, fuse)
		}
	}
	for i, least := range []int{500, 300, 1000, 50} {
		if kept[i] < least {
			t.Errorf("went through, refused, the old map, the new one: %v", kept)
		}
	}
}
