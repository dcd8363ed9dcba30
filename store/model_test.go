package store_test

import (
	"math/rand"
	"slices"
	"testing"

	"valise/api"
	"valise/disk"
	"valise/store"
)

// twins are a store and its plain model, each over a disk of its own.
type twins struct {
	from        *rand.Rand
	disk, plain *disk.Disk
	store       *store.Store
	model       *plainStore
	drawn       map[string]int
}

// alike holds all that the two tell.
func (w *twins) alike(t *testing.T) {
	t.Helper()
	if w.disk.Calls() != w.plain.Calls() || w.disk.Alive() != w.plain.Alive() || string(w.disk.Image()) != string(w.plain.Image()) {
		t.Fatalf("%d changing calls, %d bytes, live %v, the model's %d, %d, %v", w.disk.Calls(), w.disk.Size(), w.disk.Alive(), w.plain.Calls(), w.plain.Size(), w.plain.Alive())
	}
	if (w.store == nil) != (w.model == nil) {
		t.Fatalf("a store %v, the model's %v", w.store != nil, w.model != nil)
	}
	if w.store == nil {
		return
	}
	if w.store.Found() != w.model.found || w.store.Capacity() != w.plain.Capacity() || !sameArchive(w.store.Archive(), w.model.archive) {
		t.Fatalf("Found %v, want %v; or the archive is another one", w.store.Found(), w.model.found)
	}
	b, e := w.store.Image()
	if want, f := w.model.image(); string(b) != want || e != f {
		t.Fatalf("Image = %d bytes, %d, want %d, %d", len(b), e, len(want), f)
	}
	for _, name := range []string{"a", "b", "c", "d", "", "nowhere"} {
		b, e := w.store.Bytes(name)
		if want, f := w.model.bytes(name); string(b) != want || e != f {
			t.Fatalf("Bytes(%q) = %d bytes, %d, want %d, %d", name, len(b), e, len(want), f)
		}
	}
}

// open opens both.
func (w *twins) open(t *testing.T) {
	t.Helper()
	var e, f api.Errno
	w.store, e = store.Open(w.disk)
	w.model, f = plainOpen(w.plain)
	if e != f {
		t.Fatalf("Open = %d, want %d", e, f)
	}
	what := "open " + string(rune('0'+w.stateBehind()))
	if e != api.OK {
		what = "open: " + e.Error()
	}
	w.drawn[what]++
}

// stateBehind is the state that the last Open found.
func (w *twins) stateBehind() int {
	if w.model == nil {
		return 9
	}
	return w.model.found.State
}

// spoiltBy is a file with some of its bytes changed, cut off or put behind.
func spoiltBy(from *rand.Rand, image []byte) []byte {
	image = slices.Clone(image)
	switch from.Intn(6) {
	case 0:
		if len(image) > 0 {
			image[from.Intn(len(image))] ^= byte(1 + from.Intn(255))
		}
	case 1:
		image = image[:from.Intn(len(image)+1)]
	case 2:
		image = append(image, make([]byte, 1024)...)
	case 3:
		image = append(image, make([]byte, 1024+from.Intn(3))...)
	case 4:
		if len(image) > 0 {
			image[0] ^= 1
		}
	default:
		image = append(image, 'x')
	}
	return image
}

// crash lets both disks crash alike, and opens what is found; now and then other hands have been at it.
func (w *twins) crash(t *testing.T) {
	t.Helper()
	c := crashed(w.from)
	found, e := w.disk.Crash(c)
	plain, f := w.plain.Crash(c)
	if e != api.OK || f != api.OK {
		t.Fatalf("Crash = %d, %d", e, f)
	}
	if w.from.Intn(4) == 0 {
		image := spoiltBy(w.from, plain.Image())
		if len(image) > plain.Capacity() {
			image = nil
		}
		found, _ = disk.New(image, plain.Capacity())
		plain, _ = disk.New(image, plain.Capacity())
	}
	w.disk, w.plain = found, plain
	if w.from.Intn(3) == 0 {
		n := w.from.Intn(4)
		w.disk.Fuse(n)
		w.plain.Fuse(n)
	}
	w.open(t)
}

// begin lays both over a new disk.
func (w *twins) begin(t *testing.T) {
	t.Helper()
	image := ""
	if w.from.Intn(2) == 0 {
		image = gapped(t)
	}
	capacity := len(image) + w.from.Intn(6000)
	w.disk, w.plain = holds(t, image, capacity), holds(t, image, capacity)
	w.open(t)
}

// apply draws a plan, right or wrong, and lets both carry it out.
func (w *twins) apply(t *testing.T) {
	t.Helper()
	if w.store == nil {
		return
	}
	content := string(w.plain.Image())
	p := api.Plan{Size: len(content)}
	if _, e := w.model.image(); e == api.OK {
		p, _ = drawnPlan(w.from, t, content, most)
	}
	switch w.from.Intn(12) {
	case 0:
		p.Size += w.from.Intn(5) - 2
	case 1:
		if len(p.Writes) > 0 {
			x := &p.Writes[w.from.Intn(len(p.Writes))]
			x.At += w.from.Intn(5) - 2
		}
	case 2:
		if len(p.Writes) > 0 {
			x := p.Writes[w.from.Intn(len(p.Writes))]
			x.Data[w.from.Intn(len(x.Data))] ^= byte(1 << w.from.Intn(8))
		}
	case 3:
		p.Writes = append(p.Writes, api.Write{At: p.Size})
	case 4:
		p = becomes(rendered(t, zeros(1000+w.from.Intn(50)), "a", "hi"))
	case 5:
		p = becomes(content)
	case 6:
		p.Moves = !p.Moves
	}
	calls := w.plain.Calls()
	e, f := w.store.Apply(p), w.model.apply(p)
	if e != f {
		t.Fatalf("Apply to %d bytes by %d writes = %d, want %d", p.Size, len(p.Writes), e, f)
	}
	what := "apply: " + e.Error()
	if e == api.OK && calls == w.plain.Calls() {
		what = "apply: nothing done"
	}
	w.drawn[what]++
}

func TestModel(t *testing.T) { // P16.1 to P16.7
	w := &twins{from: rand.New(rand.NewSource(16)), drawn: map[string]int{}}
	for range 150 {
		w.begin(t)
		w.alike(t)
		for range 40 {
			switch w.from.Intn(6) {
			case 0:
				n := w.from.Intn(30) - 3
				w.disk.Fuse(n)
				w.plain.Fuse(n)
			case 1:
				w.crash(t)
			default:
				w.apply(t)
			}
			w.alike(t)
		}
	}
	for _, what := range []string{
		"open 0", "open 1", "open 2", "open 3", "open 4",
		"open: " + api.ErrSpoilt.Error(), "open: " + api.ErrLayEnd.Error(), "open: " + api.ErrDiskPower.Error(),
		"apply: " + api.OK.Error(), "apply: nothing done",
		"apply: " + api.ErrPlan.Error(), "apply: " + api.ErrFull.Error(), "apply: " + api.ErrDiskPower.Error(),
	} {
		if w.drawn[what] < 5 {
			t.Errorf("%s: drawn %d times", what, w.drawn[what])
		}
	}
}
