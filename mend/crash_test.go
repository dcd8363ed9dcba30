package mend_test

import (
	"strings"
	"testing"

	"valise/api"
	"valise/disk"
	"valise/journal"
	"valise/mend"
)

// crashes tells every file that may be found behind a crash of a small disk. No sector gets more than two pieces between two Syncs here, and no more than one size change.
func crashes(t *testing.T, d *disk.Disk) map[string]int {
	t.Helper()
	sectors := (d.Size() + 511) / 512
	choices := 1
	for range sectors {
		choices *= 3
	}
	all := map[string]int{}
	for keep := range choices {
		c := api.Choice{Sectors: make([]int, sectors), Rest: 9}
		for i := range c.Sectors {
			c.Sectors[i] = keep % 3
			keep /= 3
		}
		for c.Size = range 2 {
			found, e := d.Crash(c)
			if e != api.OK {
				t.Fatalf("Crash = %d", int(e))
			}
			all[string(found.Image())]++
		}
	}
	return all
}

// atOneStroke lets the power fail ahead of each changing call of Mend's Update, and behind it, and asks for one of two contents behind every crash. Another Mend makes the archive of either.
func atOneStroke(t *testing.T, image, content, want string, recovers int) {
	t.Helper()
	seen := map[string]int{}
	for fuse := recovers; ; fuse++ {
		d := holding(t, image, 1<<13)
		d.Fuse(fuse)
		_, e := mend.Mend(d)
		if d.Size() > 512*7 {
			t.Fatalf("%d bytes are too many to go through", d.Size())
		}
		for found := range crashes(t, d) {
			_, l := journal.Look([]byte(found))
			seen[string(l)]++
			if string(l) != content && string(l) != want || e == api.OK && string(l) != want {
				t.Fatalf("fuse %d: a crash leaves what recovers to %.100q", fuse, l)
			}
			lost := holding(t, found, 1<<13)
			if n, e := mend.Mend(lost); n != strings.Count(want, "PK\x01\x02") || e != api.OK || string(lost.Image()) != want {
				t.Fatalf("fuse %d: Mend behind the crash = %d, %d: %d bytes", fuse, n, int(e), lost.Size())
			}
		}
		if e == api.OK {
			break
		}
	}
	if content != want && (seen[content] < 3 || seen[want] < 2) {
		t.Errorf("%d files recover to the old content, %d to the new one", seen[content], seen[want])
	}
}

func TestStroke(t *testing.T) { // P26.6
	a, b := stored("a", "hi"), packed("b", "some text, some text")
	both := rendered(t, a, b)
	lost := both[:strings.Index(both, "PK\x01\x02")]
	atOneStroke(t, "abc", "abc", none, 0)
	atOneStroke(t, lost, lost, both, 0)
	atOneStroke(t, "...."+lost, "...."+lost, both, 0)
	long := strings.Repeat("x", 600) + lost
	atOneStroke(t, long, long, both, 0)
	broken := frame{end: func(x *api.End) { x.Disk = 1 }}.lay(a, b)
	atOneStroke(t, broken, broken, both, 0)
}

func TestStrokeRecovered(t *testing.T) { // P26.6: of what the journal left
	for _, content := range []string{"abc", "...." + known[:33]} {
		want := none
		if len(content) > 3 {
			want = known
		}
		atOneStroke(t, content+zeros(1024), content, want, 2)
		for _, state := range states {
			recovers := 2
			if state == api.StateArmed {
				recovers = 4
			}
			atOneStroke(t, sealed(state, content, len(content)), content, want, recovers)
		}
	}
}

func TestStrokeAnywhere(t *testing.T) { // P26.4, P26.6: also where the power fails in what goes ahead of the Update, nothing is lost: Mend goes on from there
	for _, content := range []string{"abc", "...." + known[:33]} {
		want := none
		if len(content) > 3 {
			want = known
		}
		for _, first := range states {
			image := sealed(first, content, len(content))
			for _, image := range []string{image, sealed(api.StateArmed, image, len(image))} {
				whole := holding(t, image, 1<<13)
				mend.Mend(whole)
				for fuse := range whole.Calls() {
					d := holding(t, image, 1<<13)
					d.Fuse(fuse)
					mend.Mend(d)
					for size := range 2 {
						for rest := range 3 {
							lost, _ := d.Crash(api.Choice{Size: size, Rest: rest})
							if _, e := mend.Mend(lost); e != api.OK || string(lost.Image()) != want {
								t.Fatalf("fuse %d: Mend behind the crash = %d, %d bytes", fuse, int(e), lost.Size())
							}
						}
					}
				}
			}
		}
	}
}
