package store_test

import (
	"slices"
	"strconv"
	"strings"
	"testing"

	"valise/api"
	"valise/disk"
	"valise/journal"
	"valise/layout"
	"valise/plan"
	"valise/store"
)

const (
	most = api.MaxCapacity
	none = "PK\x05\x06\x00\x00\x00\x00\x00\x00\x00\x00\x00\x00\x00\x00\x00\x00\x00\x00\x00\x00" // the end record of no entries
)

// zeros is so many bytes 0.
func zeros(n int) string { return strings.Repeat("\x00", n) }

// short tells a text for a message.
func short(s string) string {
	if len(s) <= 64 {
		return strconv.Quote(s)
	}
	return strconv.Quote(s[:64]) + ".. (" + strconv.Itoa(len(s)) + " bytes)"
}

// holds makes a disk whose file holds a text.
func holds(t *testing.T, image string, capacity int) *disk.Disk {
	t.Helper()
	d, e := disk.New([]byte(image), capacity)
	if e != api.OK {
		t.Fatalf("New of %d bytes, capacity %d: %d", len(image), capacity, e)
	}
	return d
}

// opened is Open where it must go well.
func opened(t *testing.T, d *disk.Disk) *store.Store {
	t.Helper()
	s, e := store.Open(d)
	if s == nil || e != api.OK {
		t.Fatalf("Open over %s: %d", short(string(d.Image())), e)
	}
	return s
}

// recordOf is the record of an entry that is stored.
func recordOf(name string, packed int) api.Central {
	c := api.Central{Made: 20}
	c.Local = api.Local{Need: 10, Date: 33, Packed: packed, Size: packed, Name: name}
	return c
}

// rendered is an archive of entries (a name, its packed bytes, the next name ..).
func rendered(t *testing.T, comment string, entries ...string) string {
	t.Helper()
	var items []api.Item
	for i := 0; i < len(entries); i += 2 {
		items = append(items, api.Item{Central: recordOf(entries[i], len(entries[i+1])), Bytes: []byte(entries[i+1])})
	}
	file, e := layout.Render(items, comment)
	if e != api.OK {
		t.Fatalf("Render of %q: %d", entries, e)
	}
	return string(file)
}

// gapped is an archive with a gap ahead of, between and behind its entries.
func gapped(t *testing.T) string {
	t.Helper()
	file := rendered(t, "note", "gone", "one", "a", "hi", "away", "two", "b", strings.Repeat("b", 700), "last", "three")
	for _, name := range []string{"gone", "away", "last"} {
		p, e := plan.Delete([]byte(file), parsed(t, file), name, most)
		if e != api.OK || p.Moves {
			t.Fatalf("Delete of %q = %d, Moves %v", name, e, p.Moves)
		}
		file = behind(t, file, p)
	}
	return file
}

// parsed is the archive of a content.
func parsed(t *testing.T, content string) api.Archive {
	t.Helper()
	a, e := layout.Parse([]byte(content))
	if e != api.OK {
		t.Fatalf("Parse of %s: %d", short(content), e)
	}
	return a
}

// behind is the content that a plan leads to.
func behind(t *testing.T, content string, p api.Plan) string {
	t.Helper()
	next, e := journal.Apply([]byte(content), p.Size, p.Writes)
	if e != api.OK {
		t.Fatalf("Apply to %s: %d", short(content), e)
	}
	return string(next)
}

// need is how much room a plan takes.
func need(t *testing.T, content string, p api.Plan) int {
	t.Helper()
	n, e := journal.Need(len(content), p.Size, p.Writes)
	if e != api.OK {
		t.Fatalf("Need: %d", e)
	}
	return n
}

// writes is a plan of the writes that are given (a place, its text, the next place ..).
func writes(size int, list ...any) api.Plan {
	p := api.Plan{Size: size}
	for i := 0; i < len(list); i += 2 {
		p.Writes = append(p.Writes, api.Write{At: list[i].(int), Data: []byte(list[i+1].(string))})
	}
	return p
}

// becomes is a plan that writes a whole content anew.
func becomes(content string) api.Plan {
	if content == "" {
		return api.Plan{}
	}
	return writes(len(content), 0, content)
}

// sameArchive tells whether two archives are alike in all.
func sameArchive(a, b api.Archive) bool {
	return slices.Equal(a.Entries, b.Entries) && a.DirAt == b.DirAt && a.Size == b.Size && a.Comment == b.Comment
}

// tells holds all that a live store tells against the content of its file, and that the disk holds no other bytes. None of it is a changing call.
func tells(t *testing.T, s *store.Store, d *disk.Disk, found api.Verdict, content string) {
	t.Helper()
	calls := d.Calls()
	if got := s.Found(); got != found {
		t.Errorf("Found %v, want %v", got, found)
	}
	a := parsed(t, content)
	if got := s.Archive(); !sameArchive(got, a) {
		t.Errorf("Archive of %d bytes, %d entries, want %d and %d", got.Size, len(got.Entries), a.Size, len(a.Entries))
	}
	if s.Capacity() != d.Capacity() {
		t.Errorf("Capacity %d, want %d", s.Capacity(), d.Capacity())
	}
	if b, e := s.Image(); string(b) != content || e != api.OK || string(d.Image()) != content {
		t.Errorf("Image %s, %d, the disk's %s, want %s", short(string(b)), e, short(string(d.Image())), short(content))
	}
	for _, x := range a.Entries {
		if b, e := s.Bytes(x.Name); string(b) != content[x.Data:x.Data+x.Packed] || e != api.OK {
			t.Errorf("Bytes(%q) = %s, %d", x.Name, short(string(b)), e)
		}
		absent(t, s, a, x.Name+"x")
		absent(t, s, a, x.Name[1:])
	}
	absent(t, s, a, "")
	absent(t, s, a, "nowhere")
	if d.Calls() != calls {
		t.Errorf("telling makes %d changing calls", d.Calls()-calls)
	}
}

// absent holds that Bytes tells nothing of a name that no entry has.
func absent(t *testing.T, s *store.Store, a api.Archive, name string) {
	t.Helper()
	if slices.ContainsFunc(a.Entries, func(x api.Entry) bool { return x.Name == name }) {
		return
	}
	if b, e := s.Bytes(name); b != nil || e != api.ErrAbsent {
		t.Errorf("Bytes(%q) = %q, %d", name, b, e)
	}
}

// silent holds that a dead store tells what it told, and nothing of its file.
func silent(t *testing.T, s *store.Store, d *disk.Disk, found api.Verdict, content string) {
	t.Helper()
	if s.Found() != found || s.Capacity() != d.Capacity() || !sameArchive(s.Archive(), parsed(t, content)) {
		t.Errorf("dead: Found %v, Capacity %d, Archive of %d bytes, want %d", s.Found(), s.Capacity(), s.Archive().Size, len(content))
	}
	if b, e := s.Image(); b != nil || e != api.ErrDiskPower {
		t.Errorf("dead: Image = %d bytes, %d", len(b), e)
	}
	for _, name := range []string{"", "a", "nowhere"} {
		if b, e := s.Bytes(name); b != nil || e != api.ErrDiskPower {
			t.Errorf("dead: Bytes(%q) = %d bytes, %d", name, len(b), e)
		}
	}
	for _, p := range []api.Plan{{}, {Size: -1}, becomes(none), becomes(content), becomes("no archive"), writes(22, 1, none)} {
		if e := s.Apply(p); e != api.ErrDiskPower {
			t.Errorf("dead: Apply = %d", e)
		}
	}
}

func TestTells(t *testing.T) { // P16.3 to P16.5
	for _, content := range []string{"", none, rendered(t, "a comment"), rendered(t, "", "a", ""), rendered(t, "", "a", "hi", "dir/b", "", "\xc3\xa9", zeros(3000)), gapped(t)} {
		d := holds(t, content, 9000)
		tells(t, opened(t, d), d, api.Verdict{Size: len(content)}, content)
		if d.Calls() != 0 {
			t.Errorf("%d changing calls", d.Calls())
		}
	}
}

func TestTellsLate(t *testing.T) { // P16.5: a descriptor is no part of the packed text
	content := "PK\x03\x04\x14\x00\x08\x00\x00\x00\x00\x00\x00\x00" + zeros(12) + "\x01\x00\x00\x00ahi" +
		"PK\x07\x08\x01\x02\x03\x04\x02\x00\x00\x00\x02\x00\x00\x00" +
		"PK\x01\x02\x14\x00\x14\x00\x08\x00\x00\x00\x00\x00\x00\x00\x01\x02\x03\x04\x02\x00\x00\x00\x02\x00\x00\x00\x01\x00" + zeros(16) + "a" +
		"PK\x05\x06\x00\x00\x00\x00\x01\x00\x01\x00\x2f\x00\x00\x00\x31\x00\x00\x00\x00\x00"
	s := opened(t, holds(t, content, 4096))
	if b, e := s.Bytes("a"); string(b) != "hi" || e != api.OK {
		t.Errorf("Bytes = %q, %d", b, e)
	}
}

func TestTellsDead(t *testing.T) { // P16.3 to P16.6: a store whose disk dies by other hands
	content, next := rendered(t, "", "a", "hi"), rendered(t, "", "a", "ho", "b", "")
	for _, kill := range []func(*disk.Disk){
		func(d *disk.Disk) { d.Crash(api.Choice{}) },
		func(d *disk.Disk) { d.Fuse(0); d.Sync() },
	} {
		d := holds(t, content, 9000)
		s := opened(t, d)
		kill(d)
		silent(t, s, d, api.Verdict{Size: len(content)}, content)
		silent(t, s, d, api.Verdict{Size: len(content)}, content) // and stays so

		d = holds(t, content, 9000)
		s = opened(t, d)
		if e := s.Apply(becomes(next)); e != api.OK {
			t.Fatalf("Apply = %d", e)
		}
		kill(d)
		silent(t, s, d, api.Verdict{Size: len(content)}, next)
	}
}

func TestNil(t *testing.T) { // P16.9, P0.6
	var s *store.Store
	if s.Found() != (api.Verdict{}) || s.Capacity() != 0 || !sameArchive(s.Archive(), api.Archive{}) || s.Archive().Entries != nil {
		t.Errorf("a nil store tells something")
	}
	if b, e := s.Image(); b != nil || e != api.ErrArg {
		t.Errorf("Image = %v, %d", b, e)
	}
	for _, name := range []string{"", "a"} {
		if b, e := s.Bytes(name); b != nil || e != api.ErrArg {
			t.Errorf("Bytes = %v, %d", b, e)
		}
	}
	for _, p := range []api.Plan{{}, {Size: -1}, becomes(none)} {
		if e := s.Apply(p); e != api.ErrArg {
			t.Errorf("Apply = %d", e)
		}
	}
}

func TestZeroStore(t *testing.T) { // P0.1: a store that no Open has made
	s := new(store.Store)
	s.Found()
	s.Archive()
	s.Capacity()
	s.Image()
	s.Bytes("a")
	s.Apply(becomes(none))
}
