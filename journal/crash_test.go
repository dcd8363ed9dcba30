package journal_test

import (
	"math/rand"
	"strings"
	"testing"

	"valise/api"
	"valise/disk"
	"valise/journal"
)

// choices tells all that a crash may keep behind some changing calls on a file of so many bytes: every number of size changes, with every number of pieces of every sector.
func choices(size int, calls []call) []api.Choice {
	var pieces [40]int
	changes := 0
	for _, c := range calls {
		from, to := c.at, c.at+len(c.data)
		switch {
		case c.kind == 's':
			pieces, changes = [40]int{}, 0
			continue
		case c.kind == 't':
			from, to = size, c.at
		}
		for sector := range pieces {
			if min(from, size) < 512*(sector+1) && to > 512*sector {
				pieces[sector]++
			}
		}
		if to > size || c.kind == 't' && to != size {
			size = to
			changes++
		}
	}
	list := []api.Choice{{Sectors: make([]int, len(pieces))}}
	for sector, n := range pieces {
		for _, c := range list {
			for keep := 1; keep <= n; keep++ {
				more := append([]int{}, c.Sectors...)
				more[sector] = keep
				list = append(list, api.Choice{Sectors: more})
			}
		}
	}
	for _, c := range list {
		for keep := 1; keep <= changes; keep++ {
			list = append(list, api.Choice{Size: keep, Sectors: c.Sectors})
		}
	}
	return list
}

// outcomes tells every file that may be found when the power fails within an act on a disk: by how many of its changing calls were carried out ahead of that. The calls are those that the act is known to make.
func outcomes(t *testing.T, image string, calls []call, act func(*disk.Disk) api.Errno) []map[string]int {
	t.Helper()
	all := make([]map[string]int, len(calls))
	for fuse := range calls {
		d := holds(t, image, 1<<14)
		d.Fuse(fuse)
		if e := act(d); e != api.ErrDiskPower {
			t.Fatalf("with Fuse(%d): %d", fuse, e)
		}
		all[fuse] = map[string]int{}
		for _, c := range choices(len(image), calls[:fuse]) {
			found, _ := d.Crash(c)
			all[fuse][string(found.Image())]++
		}
	}
	return all
}

// recovery is the act of Recover.
func recovery(d *disk.Disk) api.Errno {
	_, e := journal.Recover(d)
	return e
}

// change is an update whose crashes are gone through, all of them.
type change struct {
	what    string
	content string
	size    int
	writes  []api.Write
}

// changes are updates of all kinds, on small files.
func changes() []change {
	letters := strings.Repeat("0123456789abcdef", 160)
	seal := plainSector(api.Seal{State: 4, Old: 12, New: 5})
	return []change{
		{"nothing at all", "", 0, nil},
		{"an empty file grows", "", 3, []api.Write{write(0, "new")}},
		{"an empty file grows by zeros", "", 1023, nil},
		{"a file shrinks", hello, 5, nil},
		{"a file becomes empty", hello, 0, nil},
		{"one byte", hello, 12, []api.Write{write(0, "j")}},
		{"the same bytes", hello, 12, []api.Write{write(0, hello)}},
		{"bytes behind the end", hello, 700, []api.Write{write(520, "far")}},
		{"bytes over the end", letters[:510], 514, []api.Write{write(509, "wxyz!")}},
		{"two writes in a sector", hello, 12, []api.Write{write(0, "j"), write(7, "W")}},
		{"writes side by side", letters[:600], 600, []api.Write{write(0, zeros(300)), write(300, "ab"), write(302, "c")}},
		{"one sector just", letters[:512], 512, []api.Write{write(0, letters[1:513])}},
		{"from one sector to none", letters[:512], 0, nil},
		{"a body of two sectors", letters[:1023], 900, []api.Write{write(3, zeros(890))}},
		{"it grows by sectors", letters[:100], 1600, []api.Write{write(0, "x"), write(1000, letters[:600])}},
		{"it shrinks by sectors", letters[:1600], 100, []api.Write{write(99, "x")}},
		{"zeros at the old end", "a" + zeros(1023), 1025, []api.Write{write(1024, "b")}},
		{"zeros at the new end", letters[:900], 1100, []api.Write{write(100, zeros(800))}},
		{"all zeros", zeros(1023), 1000, []api.Write{write(0, zeros(1000))}},
		{"a seal in the content", hello + zeros(500) + seal + "x", 1024, []api.Write{write(1023, "y")}},
		{"a seal comes in", hello, 1024, []api.Write{write(11, "!"), write(512, seal)}},
		{"a journal's file but a byte", hello + zeros(500) + seal + zeros(11), 1036, []api.Write{write(1035, "y")}},
	}
}

// sameAgain holds that whatever file is found behind crashes in Recover, as often as one likes, it says the same content; and that a Recover that comes through leaves it. seen are the files gone through already.
func sameAgain(t *testing.T, image, content string, seen map[string]int) {
	t.Helper()
	work := []string{image}
	for len(work) > 0 {
		image, work = work[0], work[1:]
		if seen[image]++; seen[image] > 1 {
			continue
		}
		if _, l := journal.Look([]byte(image)); string(l) != content {
			t.Fatalf("a file of %d bytes says a content of %d bytes, not the one of %d", len(image), len(l), len(content))
		}
		recovers(t, image, content)
		for _, found := range outcomes(t, image, plainRecover(image), recovery) {
			for next := range found {
				work = append(work, next)
			}
		}
	}
}

// recovers holds that Recover of a file leaves a quiet content, durable, and that another one does nothing.
func recovers(t *testing.T, image, content string) {
	t.Helper()
	d := holds(t, image, 1<<14)
	if _, e := journal.Recover(d); e != api.OK || string(d.Image()) != content {
		t.Fatalf("Recover = %d, %d bytes, want %d", e, d.Size(), len(content))
	}
	calls := d.Calls()
	if v, e := journal.Recover(d); v != (api.Verdict{Size: len(content)}) || e != api.OK || d.Calls() != calls {
		t.Fatalf("Recover once more = %v, %d, %d calls", v, e, d.Calls()-calls)
	}
	lost, _ := d.Crash(api.Choice{})
	if string(lost.Image()) != content {
		t.Fatalf("what Recover leaves isn't durable")
	}
}

// oneOfTwo holds what is found behind all crashes of an update, and behind all crashes of the Recovers that follow it, against the two contents.
func oneOfTwo(t *testing.T, x change) {
	t.Helper()
	after := plainApply(x.content, x.size, x.writes)
	update := func(d *disk.Disk) api.Errno { return journal.Update(d, 3, x.size, x.writes) }
	d := holds(t, x.content, 1<<14)
	if e := update(d); e != api.OK || string(d.Image()) != after {
		t.Fatalf("Update = %d, %d bytes", e, d.Size())
	}
	recovers(t, after, after)
	before, behind := map[string]int{}, map[string]int{}
	calls := plainUpdate(x.content, 3, x.size, x.writes)
	either := len(calls) - 3 // the Sync behind the done seal
	for fuse, found := range outcomes(t, x.content, calls, update) {
		for image := range found {
			_, l := journal.Look([]byte(image))
			switch old := string(l) == x.content; {
			case old && fuse <= either:
				sameAgain(t, image, x.content, before)
			case fuse >= either:
				sameAgain(t, image, after, behind)
			default:
				t.Fatalf("with Fuse(%d): a content of %d bytes", fuse, len(l))
			}
		}
	}
}

func TestOneOfTwo(t *testing.T) { // P14.9
	for _, x := range changes() {
		t.Run(x.what, func(t *testing.T) { oneOfTwo(t, x) })
	}
}

func TestOneOfTwoDrawn(t *testing.T) { // P14.9
	r := rand.New(rand.NewSource(1492))
	for range 40 {
		x := change{content: drawText(r, r.Intn(1500)), size: r.Intn(1500)}
		x.writes = drawWrites(r, x.size)
		if plainTail(x.content) < 1024 && plainTail(plainApply(x.content, x.size, x.writes)) < 1024 {
			oneOfTwo(t, x)
		}
	}
}

// crashed draws what a crash keeps.
func crashed(r *rand.Rand) api.Choice {
	c := api.Choice{Size: r.Intn(3), Rest: r.Intn(4)}
	for range r.Intn(12) {
		c.Sectors = append(c.Sectors, r.Intn(4))
	}
	return c
}

func TestLongLife(t *testing.T) { // P14.9: one file through many updates and crashes
	r := rand.New(rand.NewSource(149))
	content, d := "", holds(t, "", 1<<14)
	var kept [2]int
	for seq := range 3000 {
		size := drawSize(r)
		writes := drawWrites(r, size)
		after := plainApply(content, size, writes)
		d.Fuse(r.Intn(20))
		e := journal.Update(d, seq, size, writes)
		if e == api.ErrSealQuiet && plainTail(after) >= 1024 {
			continue
		}
		if e == api.OK {
			content = after
		}
		d, _ = d.Crash(crashed(r))
		for range 4 {
			d.Fuse(r.Intn(5))
			if _, e := journal.Recover(d); e == api.OK {
				break
			}
			d, _ = d.Crash(crashed(r))
		}
		d.Fuse(-1)
		if _, e := journal.Recover(d); e != api.OK {
			t.Fatalf("Recover = %d", e)
		}
		switch string(d.Image()) {
		case content:
			kept[0]++
		case after:
			kept[1]++
			content = after
		default:
			t.Fatalf("update %d: neither content: %d bytes", seq, d.Size())
		}
	}
	if kept[0] < 100 || kept[1] < 100 {
		t.Errorf("the old content was found %d times, the new one %d times", kept[0], kept[1])
	}
}
