package valise_test

import (
	"archive/zip"
	"bytes"
	"fmt"
	"hash/crc32"
	"io"
	"maps"
	"math/rand"
	"slices"
	"strings"
	"testing"
	"unicode/utf8"

	"valise/api"
	"valise/deflate"
	"valise/disk"
	"valise/layout"
	"valise/valise"
)

// An archive from above: a map from names to texts, with what is told of them, and a note. Nothing here knows of files.

// theMap is what an archive should be.
type theMap struct {
	entries map[string]told
	note    string
}

func newMap() theMap { return theMap{entries: map[string]told{}} }

// ask is a call that changes: SetNote, Compact, or steps: one, as a call of its own, or a batch.
type ask struct {
	kind   string // "note", "compact", "step", "batch"
	note   string
	steps  []api.Step
	faulty string // the name in its fault, if it is refused by the map
}

// call is the word of its faults.
func (x ask) call() string {
	switch x.kind {
	case "note":
		return "setnote"
	case "step":
		return []string{"add", "delete", "rename"}[x.steps[0].Kind]
	}
	return x.kind
}

// name is the name in a fault that is not of the map: a full disk, a power that fails.
func (x ask) name() string {
	if x.kind == "step" {
		return x.steps[0].Name
	}
	return ""
}

// run makes the call.
func (x ask) run(v *valise.Valise) error {
	switch x.kind {
	case "note":
		return v.SetNote(x.note)
	case "compact":
		return v.Compact()
	case "batch":
		return v.Batch(x.steps...)
	}
	s := x.steps[0]
	switch s.Kind {
	case api.StepAdd:
		return v.Add(s.Name, s.Data, s.How)
	case api.StepDelete:
		return v.Delete(s.Name)
	}
	return v.Rename(s.Name, s.To)
}

// goodName is P12.1 by Go's own library.
func goodName(name string) bool {
	if name == "" || len(name) > 65535 || !utf8.ValidString(name) || strings.ContainsFunc(name, func(r rune) bool { return r < 32 || r == 127 || r == '\\' }) {
		return false
	}
	for _, part := range strings.Split(strings.TrimSuffix(name, "/"), "/") {
		if part == "" || part == "." || part == ".." {
			return false
		}
	}
	return true
}

// goodStamp says of the stamps that are drawn here whether they may be.
func goodStamp(s api.Stamp) bool {
	return s.Year >= 1980 && s.Year <= 2107 && s.Month >= 1 && s.Month <= 12 && s.Day >= 1 && s.Day <= 28 && s.Hour < 24 && s.Minute < 60 && s.Second < 60
}

// entry is what is told of an entry that is added so.
func entry(s api.Step) told {
	stamp := s.How.Stamp
	stamp.Second -= stamp.Second % 2
	x := told{Text: string(s.Data), Info: api.Info{Name: s.Name, Size: len(s.Data), Packed: len(s.Data), Method: s.How.Method, Sum: crc32.ChecksumIEEE(s.Data), Stamp: stamp, Mode: s.How.Mode, Note: s.How.Note}}
	if s.How.Method == 8 {
		b, _ := deflate.Deflate(s.Data, s.How.Level)
		x.Packed = len(b)
	}
	return x
}

// step makes one step, in a map of its own.
func (m theMap) step(s api.Step, o api.Options) (theMap, api.Errno) {
	_, there := m.entries[s.Name]
	next := theMap{entries: maps.Clone(m.entries), note: m.note}
	h := s.How
	switch s.Kind {
	case api.StepAdd:
		switch {
		case h.Method != 0 && h.Method != 8, h.Level < 0, h.Level > 9, h.Mode < 0, h.Mode > 65535, len(h.Note) > 65535:
			return m, api.ErrArg
		case !goodStamp(h.Stamp):
			return m, api.ErrStamp
		case !goodName(s.Name):
			return m, api.ErrName
		case !there && o.MaxEntries > 0 && len(m.entries) >= o.MaxEntries:
			return m, api.ErrMany
		case o.MaxData > 0 && len(s.Data) > o.MaxData:
			return m, api.ErrBig
		}
		next.entries[s.Name] = entry(s)
	case api.StepDelete:
		if !there {
			return m, api.ErrAbsent
		}
		delete(next.entries, s.Name)
	case api.StepRename:
		_, taken := m.entries[s.To]
		switch {
		case !goodName(s.To):
			return m, api.ErrName
		case !there:
			return m, api.ErrAbsent
		case taken:
			return m, api.ErrTaken
		}
		x := next.entries[s.Name]
		delete(next.entries, s.Name)
		x.Name = s.To
		next.entries[s.To] = x
	default:
		return m, api.ErrArg
	}
	return next, api.OK
}

// behind is the map behind a call, or the reason why the map refuses it; x.faulty becomes the name in the fault.
func (m theMap) behind(x *ask, o api.Options) (theMap, api.Errno) {
	switch x.kind {
	case "note":
		if len(x.note) > 65535 {
			return m, api.ErrArg
		}
		return theMap{entries: m.entries, note: x.note}, api.OK
	case "compact":
		return m, api.OK
	}
	next := m
	for _, s := range x.steps {
		var e api.Errno
		if next, e = next.step(s, o); e != api.OK {
			x.faulty = s.Name
			return m, e
		}
	}
	return next, api.OK
}

// tight is how long the file is without gaps.
func (m theMap) tight() int {
	n := 22 + len(m.note)
	for name, x := range m.entries {
		n += 30 + 46 + 2*len(name) + len(x.Note) + x.Packed
	}
	return n
}

// weight is what an entry counts for in P0.11.
func weight(name string, plain, note int) int {
	return plain + 5*max(1, (plain+65534)/65535) + 2*len(name) + note + 80
}

// room is the t of P0.11.
func (m theMap) room(x *ask) int {
	t := len(m.note) + len(x.note)
	for name, y := range m.entries {
		t += weight(name, y.Size, len(y.Note))
	}
	next := m
	for _, s := range x.steps {
		switch s.Kind {
		case api.StepAdd:
			t += weight(s.Name, len(s.Data), len(s.How.Note))
		case api.StepRename:
			y := next.entries[s.Name]
			t += weight(s.To, y.Size, len(y.Note))
		}
		next, _ = next.step(s, api.Options{})
	}
	return t
}

var drawnNames = []string{"a", "b", "c", "d", "dir/", "dir/a", "é", "long " + strings.Repeat("n", 80), "", "/", "a/../b", "\xff"}

// drawnName draws a name, of which most may be.
func drawnName(from *rand.Rand) string {
	if from.Intn(30) > 0 {
		return drawnNames[from.Intn(8)]
	}
	return drawnNames[from.Intn(len(drawnNames))]
}

// drawnHow draws how an entry is added; few are wrong.
func drawnHow(from *rand.Rand) api.How {
	h := api.How{Method: from.Intn(2) * 8, Level: from.Intn(10), Mode: from.Intn(65536), Note: strings.Repeat("ñ", from.Intn(4)*from.Intn(4))}
	h.Stamp = api.Stamp{Year: 1980 + from.Intn(128), Month: 1 + from.Intn(12), Day: 1 + from.Intn(28), Hour: from.Intn(24), Minute: from.Intn(60), Second: from.Intn(60)}
	switch from.Intn(100) {
	case 0:
		h.Method = from.Intn(20) - 5
	case 1:
		h.Level = from.Intn(40) - 10
	case 2:
		h.Mode = 65536
	case 3:
		h.Stamp.Year = 1979
	}
	return h
}

// drawnStep draws a step.
func drawnStep(from *rand.Rand) api.Step {
	s := api.Step{Kind: []int{0, 0, 0, 0, 0, 1, 1, 2, 2}[from.Intn(9)], Name: drawnName(from), To: drawnName(from)}
	if s.Kind == api.StepAdd {
		s.Data = []byte(strings.Repeat(string(rune('a'+from.Intn(26))), from.Intn(2+from.Intn(6)*60)))
		for range from.Intn(3) * from.Intn(100) {
			s.Data = append(s.Data, byte(from.Intn(256)))
		}
		s.How = drawnHow(from)
	}
	return s
}

// drawn draws a call. Its note has fewer than ten bytes.
func drawn(from *rand.Rand) *ask {
	switch from.Intn(20) {
	case 0:
		return &ask{kind: "note", note: strings.Repeat("n", from.Intn(10))}
	case 1:
		return &ask{kind: "compact"}
	case 2, 3, 4:
		x := &ask{kind: "batch"}
		for range from.Intn(6) {
			x.steps = append(x.steps, drawnStep(from))
		}
		if from.Intn(10) == 0 {
			x.steps = append(x.steps, api.Step{Kind: 3 + from.Intn(5), Name: "odd"})
		}
		return x
	}
	return &ask{kind: "step", steps: []api.Step{drawnStep(from)}}
}

// wellFormed holds a file to P0.13, by the word of Go's own library too.
func wellFormed(t *testing.T, image []byte, m theMap) {
	t.Helper()
	a, e := layout.Parse(image)
	if e != api.OK || len(a.Entries) != len(m.entries) {
		t.Fatalf("Parse: %d entries, %d, want %d", len(a.Entries), e, len(m.entries))
	}
	if len(image) == 0 {
		return
	}
	z, err := zip.NewReader(bytes.NewReader(image), int64(len(image)))
	if err != nil && err != zip.ErrInsecurePath || len(z.File) != len(m.entries) || z.Comment != m.note {
		t.Fatalf("another program reads: %v", err)
	}
	for _, f := range z.File {
		if strings.HasSuffix(f.Name, "/") && f.UncompressedSize64 > 0 { // that program reads no folder with bytes
			continue
		}
		r, err := f.Open()
		if err != nil {
			t.Fatalf("another program opens %q: %v", f.Name, err)
		}
		b, err := io.ReadAll(r)
		want := m.entries[f.Name]
		if err != nil || string(b) != want.Text || int(f.UncompressedSize64) != want.Size || f.CRC32 != want.Sum || f.Comment != want.Note || f.ExternalAttrs != uint32(want.Mode)<<16 || f.NonUTF8 {
			t.Fatalf("another program reads %q: %v, %d bytes", f.Name, err, len(b))
		}
	}
}

// TestMap plays long rows of calls over one open archive against the map.
func TestMap(t *testing.T) { // P0.10, P0.13, P0.15, P0.16
	from := rand.New(rand.NewSource(10))
	count := map[string]int{}
	for range 60 {
		o := api.Options{}
		if from.Intn(3) == 0 {
			o = api.Options{MaxEntries: 1 + from.Intn(4), MaxData: 1 + from.Intn(300)}
		}
		d := holds(t, "", 1<<20)
		v := limited(t, d, o)
		m, made := newMap(), false
		for range 60 {
			x := drawn(from)
			next, reason := m.behind(x, o)
			calls, size := d.Calls(), d.Size()
			err := x.run(v)
			count[fmt.Sprint(x.call(), " ", int(reason))]++
			if reason != api.OK {
				fails(t, err, x.call(), x.faulty, reason)
				if d.Calls() != calls || d.Size() != size {
					t.Errorf("a refused %s changes the disk", x.call())
				}
			} else {
				goes(t, err)
				made = made || x.kind != "batch" || len(x.steps) > 0
			}
			m = next
			all, note := mapOf(t, d, v)
			if !maps.Equal(all, m.entries) || note != m.note {
				t.Fatalf("behind %v: %v, want %v", x, all, m.entries)
			}
			lasting(t, d, v, x, m, made, calls)
			if from.Intn(10) == 0 {
				goes(t, v.Close())
				v = limited(t, d, o)
			}
		}
	}
	for _, what := range []string{"add 0", "add 1", "add 120", "add 121", "add 152", "add 153", "delete 0", "delete 150", "rename 0", "rename 120", "rename 150", "rename 151", "setnote 0", "compact 0", "batch 0", "batch 1", "batch 150", "batch 151", "batch 152"} {
		if count[what] < 2 {
			t.Errorf("%s: drawn %d times", what, count[what])
		}
	}
}

// lasting holds the file to P0.13, P0.15 and P0.16 behind a call.
func lasting(t *testing.T, d *disk.Disk, v *valise.Valise, x *ask, m theMap, made bool, calls int) {
	t.Helper()
	image := d.Image()
	wellFormed(t, image, m)
	if len(image) == 0 && len(m.entries) > 0 || len(image) > 2*m.tight() {
		t.Fatalf("%d bytes, tight %d", len(image), m.tight())
	}
	if !made && len(image) > 0 {
		t.Errorf("nothing was made, and there are %d bytes", len(image))
	}
	if n := d.Calls() - calls; n > 13 && x.kind != "batch" {
		t.Errorf("%s makes %d changing calls", x.call(), n)
	}
	if x.kind == "compact" {
		if len(image) != m.tight() {
			t.Errorf("%d bytes behind Compact, tight %d", len(image), m.tight())
		}
		still(t, d, func() { goes(t, v.Compact()) })
	}
	lost, _ := disk.New(image, d.Capacity()) // and it is opened without a changing call
	opened(t, lost)
	if lost.Calls() != 0 {
		t.Errorf("Open makes %d changing calls", lost.Calls())
	}
}

// TestRoom plays rows of calls, each on a disk that has just the room that P0.11 asks for.
func TestRoom(t *testing.T) { // P0.11
	from := rand.New(rand.NewSource(11))
	for range 40 {
		image, m := []byte(nil), newMap()
		for range 80 {
			x := drawn(from)
			if from.Intn(12) == 0 && x.kind == "step" && x.steps[0].Kind == api.StepAdd {
				x.steps[0].Data = bytes.Repeat(x.steps[0].Data, from.Intn(100))
			}
			next, reason := m.behind(x, api.Options{})
			if reason != api.OK {
				continue
			}
			times := 3
			if x.kind == "batch" {
				times = 4
			}
			capacity := 4096 + times*m.room(x)
			d, e := disk.New(image, capacity)
			if e != api.OK {
				t.Fatalf("%d bytes on a disk of %d", len(image), capacity)
			}
			v := opened(t, d)
			if err := x.run(v); err != nil {
				t.Fatalf("%v over %d bytes, capacity %d: %v", x.call(), len(image), capacity, err)
			}
			m, image = next, d.Image()
		}
		d, v := over(t, string(image), 1<<22)
		all, _ := mapOf(t, d, v)
		if !maps.Equal(all, m.entries) {
			t.Errorf("another map: %q", slices.Sorted(maps.Keys(all)))
		}
	}
}

func TestPackedBound(t *testing.T) { // P0.15: how long a packed text is at most
	from := rand.New(rand.NewSource(15))
	for _, n := range []int{0, 1, 2, 100, 65534, 65535, 65536, 131070, 131071} {
		data := make([]byte, n)
		from.Read(data)
		for level := range 10 {
			_, v := over(t, "", 1<<20)
			how := packed
			how.Level = level
			goes(t, v.Add("a", data, how))
			if i, err := v.Stat("a"); i.Packed > n+5*max(1, (n+65534)/65535) || err != nil {
				t.Errorf("%d bytes at level %d are packed as %d, %v", n, level, i.Packed, err)
			}
		}
	}
}
