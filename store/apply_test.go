package store_test

import (
	"maps"
	"math"
	"strings"
	"testing"

	"valise/api"
	"valise/disk"
	"valise/journal"
	"valise/plan"
	"valise/store"
)

// applies holds that Apply makes this content of the store's, synced.
func applies(t *testing.T, s *store.Store, d *disk.Disk, p api.Plan, content string) {
	t.Helper()
	found := s.Found()
	if e := s.Apply(p); e != api.OK {
		t.Fatalf("Apply to %d bytes by %d writes = %d", p.Size, len(p.Writes), e)
	}
	tells(t, s, d, found, content)
}

// rejects holds that Apply refuses a plan, and that the disk and the store are as they were.
func rejects(t *testing.T, s *store.Store, d *disk.Disk, p api.Plan, want api.Errno) {
	t.Helper()
	found, content, calls := s.Found(), string(d.Image()), d.Calls()
	if e := s.Apply(p); e != want {
		t.Errorf("Apply to %d bytes by %d writes = %d, want %d", p.Size, len(p.Writes), e, want)
	}
	if d.Calls() != calls || !d.Alive() {
		t.Errorf("a refused Apply makes %d changing calls", d.Calls()-calls)
	}
	tells(t, s, d, found, content)
}

// wrongPlans are plans that lead nowhere from a content of 22 bytes, none.
func wrongPlans(t *testing.T) map[string]api.Plan {
	t.Helper()
	return map[string]api.Plan{
		"a size below 0":            {Size: -1},
		"the least size":            {Size: math.MinInt},
		"too great a size":          {Size: most + 1},
		"the greatest size":         {Size: math.MaxInt},
		"a write without bytes":     writes(22, 3, ""),
		"a write ahead of 0":        writes(22, -1, "x"),
		"a write beyond the size":   writes(22, 21, "xy"),
		"a write behind the size":   writes(22, 22, "x"),
		"a write far out":           writes(22, math.MaxInt, "x"),
		"writes that overlap":       writes(22, 0, none, 21, "\x00"),
		"writes that fall":          writes(22, 1, "K", 0, "P"),
		"a write twice":             writes(22, 0, "P", 0, "P"),
		"a size below":              {Size: 21},
		"a size above":              {Size: 23},
		"one byte":                  {Size: 1},
		"another signature":         writes(22, 0, "Q"),
		"an entry that isn't there": writes(22, 8, "\x01\x00\x01\x00"),
		"another disk":              writes(22, 4, "\x01"),
		"a directory elsewhere":     writes(22, 16, "\x01"),
		"a comment too short":       writes(24, 20, "\x03\x00cc"),
		"zeros behind":              {Size: 22 + 1024},
		"a comment of zeros":        becomes(rendered(t, zeros(1024))),
		"a long comment of zeros":   becomes(rendered(t, zeros(9999), "a", "hi")),
		"a comment with a seal":     becomes(loud(t)),
		"a whole journal":           becomes(sealed(t, api.StateArmed, none, 22)),
		"a name that may not be":    becomes(strings.ReplaceAll(rendered(t, "", "a", "hi"), "a", "/")),
	}
}

func TestApplyPlan(t *testing.T) { // P16.6, 2
	for what, p := range wrongPlans(t) {
		t.Run(what, func(t *testing.T) {
			for _, capacity := range []int{22, 1046, 4096, most} { // ahead of the room that is asked for
				d := holds(t, none, capacity)
				s := opened(t, d)
				rejects(t, s, d, p, api.ErrPlan)
				p.Moves = !p.Moves
				rejects(t, s, d, p, api.ErrPlan)
			}
		})
	}
}

func TestApplyDead(t *testing.T) { // P16.6, 1: ahead of a plan that may not be, and of one that changes nothing
	d := holds(t, none, 1024)
	s := opened(t, d)
	d.Crash(api.Choice{})
	for what, p := range wrongPlans(t) {
		if e := s.Apply(p); e != api.ErrDiskPower {
			t.Errorf("%s: Apply = %d", what, e)
		}
	}
	silent(t, s, d, api.Verdict{Size: 22}, none)
}

func TestApplySame(t *testing.T) { // P16.6, 3: ahead of the room that is asked for
	whole := gapped(t)
	for _, content := range []string{"", none, whole} {
		for _, capacity := range []int{len(content), len(content) + 1023, most} {
			d := holds(t, content, capacity)
			s := opened(t, d)
			d.Fuse(0)
			for _, p := range []api.Plan{{Size: len(content)}, {Size: len(content), Moves: true}, becomes(content)} {
				applies(t, s, d, p, content)
			}
			if content != "" {
				applies(t, s, d, writes(len(content), 1, content[1:3], 3, content[3:4], 9, content[9:]), content)
			}
			if d.Calls() != 0 || !d.Alive() {
				t.Errorf("an Apply that changes nothing makes changing calls")
			}
		}
	}
}

func TestApplyFull(t *testing.T) { // P16.6, 4
	whole := gapped(t)
	for _, x := range []struct {
		content string
		plan    api.Plan
	}{
		{"", becomes(none)},
		{"", becomes(whole)},
		{none, api.Plan{}},
		{none, becomes(whole)},
		{whole, becomes(none)},
		{whole, writes(len(whole), len(whole)-1, "x")},
	} {
		n := need(t, x.content, x.plan)
		next := behind(t, x.content, x.plan)
		for _, capacity := range []int{len(x.content), n - 512, n - 1} {
			d := holds(t, x.content, capacity)
			rejects(t, opened(t, d), d, x.plan, api.ErrFull)
		}
		for _, capacity := range []int{n, n + 1, most} {
			d := holds(t, x.content, capacity)
			applies(t, opened(t, d), d, x.plan, next)
		}
	}
}

func TestApplyGreatest(t *testing.T) { // P16.6, 4: no disk is so great that the journal of the greatest archive would fit
	content := rendered(t, "", "a", zeros(most-100))
	if len(content) != most {
		t.Fatalf("%d bytes", len(content))
	}
	d := holds(t, content, most)
	s := opened(t, d)
	rejects(t, s, d, writes(most, 31, "x"), api.ErrFull)
	rejects(t, s, d, writes(most, most-1, "x"), api.ErrPlan)
	applies(t, s, d, writes(most, 31, "\x00"), content)
	d = holds(t, "", most)
	s = opened(t, d)
	rejects(t, s, d, becomes(content), api.ErrFull)
}

func TestApplyChanges(t *testing.T) { // P16.7: the plans of layer 15, one behind the other
	d := holds(t, "", 1<<14)
	s := opened(t, d)
	content := ""
	step := func(p api.Plan, e api.Errno) {
		t.Helper()
		if e != api.OK {
			t.Fatalf("the plan: %d", e)
		}
		content = behind(t, content, p)
		p.Moves = !p.Moves // says nothing here
		applies(t, s, d, p, content)
		if lost := d.Size(); lost != len(content) {
			t.Errorf("the file has %d bytes", lost)
		}
	}
	image := func() []byte { return []byte(content) }
	step(plan.Compact(image(), s.Archive(), 1<<14))
	step(plan.Add(image(), s.Archive(), recordOf("a", 2), []byte("hi"), 1<<14))
	step(plan.Add(image(), s.Archive(), recordOf("b", 700), []byte(strings.Repeat("b", 700)), 1<<14))
	step(plan.Add(image(), s.Archive(), recordOf("c", 0), nil, 1<<14))
	step(plan.Delete(image(), s.Archive(), "a", 1<<14))
	step(plan.Add(image(), s.Archive(), recordOf("d", 1), []byte("d"), 1<<14))
	step(plan.Rename(image(), s.Archive(), "b", "e", 1<<14))
	step(plan.Note(image(), s.Archive(), "a comment", 1<<14))
	step(plan.Delete(image(), s.Archive(), "c", 1<<14))
	step(plan.Compact(image(), s.Archive(), 1<<14))
	step(plan.Compact(image(), s.Archive(), 1<<14))
	step(plan.Note(image(), s.Archive(), "", 1<<14))
	step(api.Plan{}, api.OK) // no bytes are an archive too
	step(becomes(none), api.OK)
	lost, _ := d.Crash(api.Choice{})
	if string(lost.Image()) != content {
		t.Errorf("the content isn't synced")
	}
}

func TestApplyOtherContent(t *testing.T) { // P16.7: bytes of gaps and packed texts are content like any others
	content := gapped(t)
	at := parsed(t, content).Entries[1].Data
	d := holds(t, content, 1<<14)
	s := opened(t, d)
	p := writes(len(content), 0, "?", at, "B")
	content = "?" + content[1:at] + "B" + content[at+1:]
	calls := d.Calls()
	applies(t, s, d, p, content)
	if d.Calls() == calls {
		t.Errorf("nothing is done")
	}
	if b, _ := s.Bytes("b"); string(b[:3]) != "Bbb" {
		t.Errorf("Bytes = %s", short(string(b)))
	}
}

func TestApplyIsUpdate(t *testing.T) { // P16.7: the changing calls, and what every crash leaves of them, are Update's
	old, next := rendered(t, "old", "a", "hi", "b", ""), rendered(t, "new", "c", strings.Repeat("c", 600), "d", "")
	for _, x := range []struct {
		content string
		plan    api.Plan
	}{
		{old, becomes(next)},
		{next, becomes(old)},
		{old, writes(len(old), 31, "ho", len(old)-1, "x")},
		{old, api.Plan{}},
		{"", becomes(next)},
	} {
		for fuse := range 15 {
			d, twin := holds(t, x.content, 9000), holds(t, x.content, 9000)
			s := opened(t, d)
			d.Fuse(fuse)
			twin.Fuse(fuse)
			e, f := s.Apply(x.plan), journal.Update(twin, 1, x.plan.Size, x.plan.Writes)
			if e != f || d.Calls() != twin.Calls() || d.Alive() != twin.Alive() || string(d.Image()) != string(twin.Image()) {
				t.Fatalf("Fuse(%d): Apply = %d, %d changing calls, Update = %d, %d", fuse, e, d.Calls(), f, twin.Calls())
			}
			if e != api.OK {
				silent(t, s, d, api.Verdict{Size: len(x.content)}, x.content)
			}
			if !maps.Equal(crashes(t, d), crashes(t, twin)) {
				t.Fatalf("Fuse(%d): a crash leaves another file", fuse)
			}
		}
	}
}

// cutOff lets the power fail in the next update, behind its first step, and tells the sequence number that its seal says.
func cutOff(t *testing.T, s *store.Store, d *disk.Disk, p api.Plan) (int, *disk.Disk) {
	t.Helper()
	d.Fuse(2)
	if e := s.Apply(p); e != api.ErrDiskPower {
		t.Fatalf("Apply = %d", e)
	}
	found, _ := d.Crash(api.Choice{})
	v, _ := journal.Look(found.Image())
	if v.State != api.StateClaimed {
		t.Fatalf("Look = %v", v)
	}
	return v.Seq, found
}

func TestApplyCount(t *testing.T) { // P16.2, P16.6, P16.7: the sequence number counts the updates since Open
	d := holds(t, "", 4096)
	for n := range 5 {
		s := opened(t, d)
		for i := range n {
			for _, p := range []api.Plan{{Size: -1}, {Size: 1}, becomes(string(d.Image())), becomes(rendered(t, "", "a", zeros(4096)))} { // none of these counts
				s.Apply(p)
			}
			if e := s.Apply(becomes(rendered(t, strings.Repeat("x", 10*n+i)))); e != api.OK {
				t.Fatalf("Apply = %d", e)
			}
		}
		seq, found := cutOff(t, s, d, becomes(rendered(t, "", "last", "")))
		if seq != n+1 {
			t.Errorf("behind %d updates: the sequence number %d", n, seq)
		}
		d = found
	}
}
