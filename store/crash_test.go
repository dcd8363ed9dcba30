package store_test

import (
	"math/rand"
	"strings"
	"testing"

	"valise/api"
	"valise/disk"
	"valise/plan"
	"valise/store"
)

// crashes tells every file that may be found behind a crash of a small disk, and how often. No sector gets more than two pieces between two Syncs here, and no more than one size change.
func crashes(t *testing.T, d *disk.Disk) map[string]int {
	t.Helper()
	sectors := (d.Size() + 511) / 512
	all := map[string]int{}
	for keep := range power(3, sectors) {
		c := api.Choice{Sectors: make([]int, sectors), Rest: 9}
		for i := range c.Sectors {
			c.Sectors[i] = keep % 3
			keep /= 3
		}
		for c.Size = range 2 {
			found, e := d.Crash(c)
			if e != api.OK {
				t.Fatalf("Crash = %d", e)
			}
			all[string(found.Image())]++
		}
	}
	return all
}

// power is n times itself, so often.
func power(n, often int) int {
	p := 1
	for range often {
		p *= n
	}
	return p
}

// openings goes through all Opens over a file: those that come through, and those in which the power fails, with all that is then found, as often as one likes. All of them must lead to this content. seen are the files gone through already.
func openings(t *testing.T, image, content string, seen map[string]int) {
	t.Helper()
	work := []string{image}
	for len(work) > 0 {
		image, work = work[0], work[1:]
		if seen[image]++; seen[image] > 1 {
			continue
		}
		d := holds(t, image, 9000)
		s := opened(t, d)
		if b, e := s.Image(); string(b) != content || e != api.OK || !sameArchive(s.Archive(), parsed(t, content)) {
			t.Fatalf("a file of %d bytes is opened as %d bytes, not as %d", len(image), len(b), len(content))
		}
		for fuse := range d.Calls() {
			d := holds(t, image, 9000)
			d.Fuse(fuse)
			if s, e := store.Open(d); s != nil || e != api.ErrDiskPower {
				t.Fatalf("Fuse(%d): Open = %v, %d", fuse, s != nil, e)
			}
			for next := range crashes(t, d) {
				work = append(work, next)
			}
		}
	}
}

// atOneStroke goes through all crashes of an Apply, and of all Opens that follow.
func atOneStroke(t *testing.T, content string, p api.Plan) {
	t.Helper()
	next := behind(t, content, p)
	before, after := map[string]int{}, map[string]int{}
	for fuse := 0; ; fuse++ {
		d := holds(t, content, 9000)
		s := opened(t, d)
		d.Fuse(fuse)
		e := s.Apply(p)
		for image := range crashes(t, d) {
			lost, _ := disk.New([]byte(image), 9000)
			s := opened(t, lost)
			if b, _ := s.Image(); string(b) == content && e != api.OK {
				openings(t, image, content, before)
			} else {
				openings(t, image, next, after)
			}
		}
		if e == api.OK {
			break
		}
	}
	if len(before) < 3 || len(after) < 2 {
		t.Errorf("%d files lead to the old content, %d to the new one", len(before), len(after))
	}
}

func TestStroke(t *testing.T) { // P16.8
	small, whole := rendered(t, "", "a", "hi", "b", "ho"), gapped(t)
	planned := func(content string, p api.Plan, e api.Errno) {
		t.Helper()
		if e != api.OK {
			t.Fatalf("the plan: %d", e)
		}
		atOneStroke(t, content, p)
	}
	atOneStroke(t, "", becomes(none))
	atOneStroke(t, none, api.Plan{})
	atOneStroke(t, "", becomes(whole))
	atOneStroke(t, small, becomes(none))
	p, e := plan.Add([]byte(small), parsed(t, small), recordOf("c", 300), []byte(strings.Repeat("c", 300)), 9000)
	planned(small, p, e)
	p, e = plan.Delete([]byte(small), parsed(t, small), "a", 9000)
	planned(small, p, e)
	p, e = plan.Rename([]byte(small), parsed(t, small), "a", "z", 9000)
	planned(small, p, e)
	p, e = plan.Note([]byte(small), parsed(t, small), "a comment", 9000)
	planned(small, p, e)
	p, e = plan.Compact([]byte(whole), parsed(t, whole), 9000)
	planned(whole, p, e)
	p, e = plan.Add([]byte(whole), parsed(t, whole), recordOf("n", 3), []byte("new"), 9000)
	planned(whole, p, e)
}

// crashed draws what a crash keeps.
func crashed(from *rand.Rand) api.Choice {
	c := api.Choice{Size: from.Intn(3), Rest: from.Intn(4)}
	for range from.Intn(12) {
		c.Sectors = append(c.Sectors, from.Intn(4))
	}
	return c
}

// drawnPlan draws a plan of layer 15 for a content; false where the call is refused.
func drawnPlan(from *rand.Rand, t *testing.T, content string, capacity int) (api.Plan, bool) {
	t.Helper()
	file, a := []byte(content), parsed(t, content)
	name := func() string { return string(rune('a' + from.Intn(8))) }
	var p api.Plan
	var e api.Errno
	switch from.Intn(8) {
	case 0, 1, 2, 3:
		data := strings.Repeat(name(), from.Intn(2+200*from.Intn(6)))
		p, e = plan.Add(file, a, recordOf(name(), len(data)), []byte(data), capacity)
	case 4:
		p, e = plan.Delete(file, a, name(), capacity)
	case 5:
		p, e = plan.Rename(file, a, name(), name(), capacity)
	case 6:
		p, e = plan.Note(file, a, strings.Repeat(name(), from.Intn(20)), capacity)
	default:
		p, e = plan.Compact(file, a, capacity)
	}
	return p, e == api.OK
}

func TestLongLife(t *testing.T) { // P16.8: one file through many changes and crashes
	from := rand.New(rand.NewSource(168))
	content, d := "", holds(t, "", 1<<14)
	var kept [3]int
	for range 4000 {
		s := opened(t, d)
		p, ok := drawnPlan(from, t, content, 1<<14)
		if !ok {
			continue
		}
		next := behind(t, content, p)
		d.Fuse(from.Intn(20))
		e := s.Apply(p)
		if e == api.OK {
			content = next
			kept[2]++
		} else if e != api.ErrDiskPower {
			t.Fatalf("Apply = %d", e)
		}
		d, _ = d.Crash(crashed(from))
		for range from.Intn(5) {
			d.Fuse(from.Intn(5))
			store.Open(d)
			d, _ = d.Crash(crashed(from))
		}
		b, _ := opened(t, d).Image()
		switch string(b) {
		case content:
			kept[0]++
		case next:
			kept[1]++
			content = next
		default:
			t.Fatalf("neither content: %d bytes", len(b))
		}
		d, _ = disk.New(b, 1<<14)
	}
	if kept[0] < 500 || kept[1] < 100 || kept[2] < 500 {
		t.Errorf("the old content was found %d times, the new one %d times, of %d Applies that went through", kept[0], kept[1], kept[2])
	}
}
