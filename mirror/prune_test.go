package mirror_test

import (
	"slices"
	"testing"

	"valise/api"
	"valise/disk"
	"valise/mirror"
	"valise/valise"
)

func TestPrune(t *testing.T) { // P25.7
	all := []string{"a.txt", "b", "d/", "d/a.txt", "d/e/b.txt", "d/e/é", "x-y", "[", "*"}
	for pattern, gone := range map[string][]string{
		"**": all, "*": {"a.txt", "b", "x-y", "[", "*"}, "*.txt": {"a.txt"}, "**.txt": {"a.txt", "d/a.txt", "d/e/b.txt"}, "d/**": {"d/", "d/a.txt", "d/e/b.txt", "d/e/é"}, "d/*": {"d/", "d/a.txt"}, "?": {"b", "[", "*"}, "**/?": {"d/e/é"},
		"[x-z][+--]y": {"x-y"}, "\\[": {"["}, "\\*": {"*"}, "[*[]": {"*", "["}, "": {}, "no": {}, "*/": {"d/"}, "**/": {"d/"}, "***": all,
	} {
		file := holding(t, all...)
		d, v := over(t, file, 1<<14)
		before := entries(t, v)
		counts(t, len(gone))(mirror.Prune(v, pattern))
		if len(gone) == 0 {
			still(t, d, file, 0)
		}
		var left []string
		for _, name := range slices.Sorted(slices.Values(all)) {
			if !slices.Contains(gone, name) {
				left = append(left, name)
			}
		}
		names(t, v, left...)
		for x, text := range entries(t, v) {
			if before[x] != text {
				t.Errorf("%q has changed", x.Name)
			}
		}
	}
}

func TestPruneErrors(t *testing.T) { // P25.7: the error of Match, whatever the archive holds
	for _, file := range []string{"", holding(t, "a", "[")} {
		d, v := over(t, file, 1<<14)
		for _, pattern := range []string{"[", "[]", "a\\", "[c-a]", "**[!", "x[a-\\"} {
			refuses(t, "prune", pattern, api.ErrPattern)(mirror.Prune(v, pattern))
		}
		refuses(t, "prune", many("*", 65536), api.ErrArg)(mirror.Prune(v, many("*", 65536)))
		refuses(t, "prune", many("[", 65536), api.ErrArg)(mirror.Prune(v, many("[", 65536)))
		still(t, d, file, 0)
		want := slices.Collect(v.Names())
		counts(t, len(want))(mirror.Prune(v, many("*", 65535)))
	}
}

func TestPruneNone(t *testing.T) { // P25.7: no changing call
	d, v := over(t, "", 0)
	counts(t, 0)(mirror.Prune(v, "**"))
	still(t, d, "", 0)
	file := holding(t, "a")
	d, v = over(t, file, len(file))
	counts(t, 0)(mirror.Prune(v, "b*"))
	still(t, d, file, 0)
	d.Fuse(0)
	counts(t, 0)(mirror.Prune(v, "b*"))
	refuses(t, "prune", "", api.ErrFull)(mirror.Prune(v, "a*"))
	still(t, d, file, 0)
}

func TestPruneDamaged(t *testing.T) { // P25.7: whatever an entry holds
	bad := item("a", "data")
	bad.Sum++
	_, v := over(t, laid(t, bad, item("b", "data")), 1<<14)
	counts(t, 1)(mirror.Prune(v, "a"))
	names(t, v, "b")
}

func TestHandles(t *testing.T) { // P25.8, P0.6: nil, closed, dead, ahead of all other errors
	file := holding(t, "d/a", "b")
	_, closed := over(t, file, 1<<14)
	goes(t, closed.Close())
	d, dead := over(t, file, 1<<14)
	d.Fuse(0)
	fails(t, dead.Delete("b"), "delete", "b", api.ErrDiskPower)
	d, both := over(t, file, 1<<14)
	d.Fuse(0)
	fails(t, both.Delete("b"), "delete", "b", api.ErrDiskPower)
	goes(t, both.Close())
	for v, reason := range map[*valise.Valise]api.Errno{nil: api.ErrArg, closed: api.ErrClosed, dead: api.ErrDiskPower, both: api.ErrClosed} {
		refusesMirror(t, v, "", reason)
		refusesMirror(t, v, "", reason, wanted("a", "a"))
		refusesMirror(t, v, "", reason, wanted("../a", "a"))
		for _, from := range []string{"d", "", "no", "../d"} {
			for _, to := range []string{"e", "", "d", "d/x"} {
				refuses(t, "move", "", reason)(mirror.Move(v, from, to))
			}
		}
		for _, pattern := range []string{"**", "", "[", "no", many("*", 65536)} {
			refuses(t, "prune", "", reason)(mirror.Prune(v, pattern))
		}
	}
}

// stroke is a call that changes an archive, by its word.
type stroke struct {
	call string
	run  func(*valise.Valise) (int, error)
}

// strokes are calls of all three kinds, over the archive that struck makes.
func strokes() []stroke {
	long := many("new", 200)
	counted := func(want ...api.Want) func(*valise.Valise) (int, error) {
		return func(v *valise.Valise) (int, error) {
			done, err := mirror.Mirror(v, want...)
			return done.Added + done.Replaced + done.Deleted + done.Kept, err
		}
	}
	kept := wanted("a/x", "a/x")
	kept.How.Mode = 420
	return []stroke{
		{"mirror", counted(kept, wanted("a/y", long), wanted("n", "new"))},
		{"mirror", counted(wanted("b", "b"))},
		{"mirror", counted()},
		{"move", func(v *valise.Valise) (int, error) { return mirror.Move(v, "a", "a longer name/of it") }},
		{"move", func(v *valise.Valise) (int, error) { return mirror.Move(v, "a/", "b") }},
		{"prune", func(v *valise.Valise) (int, error) { return mirror.Prune(v, "a/?") }},
		{"prune", func(v *valise.Valise) (int, error) { return mirror.Prune(v, "**") }},
	}
}

// struck is an archive with a gap.
func struck(t *testing.T) string {
	t.Helper()
	d, v := over(t, holding(t, "a/x", "gap", "b", "a/y"), 1<<14)
	goes(t, v.Delete("gap"))
	return string(d.Image())
}

func TestStrokes(t *testing.T) { // P25.9, P16.8, P0.12: wherever the power fails, whatever the crash keeps
	image := struck(t)
	for _, x := range strokes() {
		d, v := over(t, image, 1<<14)
		if n, err := x.run(v); n == 0 || err != nil {
			t.Fatalf("%s: %d, %v", x.call, n, err)
		}
		calls, next := d.Calls(), string(d.Image())
		lost, e := d.Crash(api.Choice{}) // what has answered is kept
		if string(lost.Image()) != next || e != api.OK {
			t.Fatalf("%s: another file behind a crash", x.call)
		}
		met := map[bool]int{}
		for fuse := range calls {
			d, v := over(t, image, 1<<14)
			d.Fuse(fuse)
			refuses(t, x.call, "", api.ErrDiskPower)(x.run(v))
			refuses(t, x.call, "", api.ErrDiskPower)(x.run(v))
			for size := range 4 {
				for rest := range 4 {
					found, e := d.Crash(api.Choice{Size: size, Rest: rest, Sectors: []int{rest, size, rest}})
					if e != api.OK {
						t.Fatalf("Crash: %d", e)
					}
					met[recovered(t, found, image, next)]++
				}
			}
		}
		if met[true] == 0 || met[false] == 0 {
			t.Errorf("%s: %v", x.call, met)
		}
	}
}

// recovered opens a disk behind a crash, with more crashes in Open itself, and tells whether the content is the one ahead of the call.
func recovered(t *testing.T, d *disk.Disk, image, next string) bool {
	t.Helper()
	for fuse := range 3 {
		d.Fuse(fuse)
		_, err := valise.Open(d, api.Options{})
		if err == nil {
			break
		}
		fails(t, err, "open", "", api.ErrDiskPower)
		found, e := d.Crash(api.Choice{Size: fuse % 2, Rest: fuse})
		if e != api.OK {
			t.Fatalf("Crash: %d", e)
		}
		d = found
	}
	d, e := d.Crash(api.Choice{})
	if e != api.OK {
		t.Fatalf("Crash: %d", e)
	}
	_, err := valise.Open(d, api.Options{})
	goes(t, err)
	got := string(d.Image())
	if got != image && got != next {
		t.Fatalf("a file of %d bytes, neither of the %d ahead nor of the %d behind", len(got), len(image), len(next))
	}
	return got == image
}
