package valise_test

import (
	"archive/zip"
	"bytes"
	"io"
	"maps"
	"math/rand"
	"strings"
	"testing"
	"time"

	"valise/api"
	"valise/disk"
	"valise/journal"
	"valise/layout"
	"valise/valise"
)

// libraryFile is an archive that another program has laid down: entries stored and packed, told late or not, folders, notes, extra texts, bytes ahead.
func libraryFile(t *testing.T, from *rand.Rand) []byte {
	t.Helper()
	var file bytes.Buffer
	file.WriteString(strings.Repeat("#", from.Intn(3)*from.Intn(30)))
	w := zip.NewWriter(&file)
	w.SetOffset(int64(file.Len()))
	w.SetComment(strings.Repeat("c", from.Intn(10)))
	for _, i := range from.Perm(8)[:from.Intn(9)] {
		name := drawnNames[i]
		h := &zip.FileHeader{Name: name, Comment: strings.Repeat("n", from.Intn(9)), Method: uint16(from.Intn(2) * 8)}
		if from.Intn(2) == 0 {
			h.Modified = time.Date(1990+from.Intn(100), 2, 3, 4, 5, 6, 0, time.UTC)
		}
		if from.Intn(2) == 0 {
			h.SetMode(0644)
		}
		if strings.HasSuffix(name, "/") {
			h.Method = 0
		}
		f, err := w.CreateHeader(h)
		if err == nil && !strings.HasSuffix(name, "/") {
			_, err = io.WriteString(f, strings.Repeat("text ", from.Intn(200)))
		}
		if err != nil {
			t.Fatal(err)
		}
	}
	if err := w.Close(); err != nil {
		t.Fatal(err)
	}
	return file.Bytes()
}

// libraryMap is the map that a file says, by the word of Go's own library.
func libraryMap(t *testing.T, file []byte) theMap {
	t.Helper()
	z, err := zip.NewReader(bytes.NewReader(file), int64(len(file)))
	if err != nil {
		t.Fatal(err)
	}
	m := newMap()
	m.note = z.Comment
	for _, f := range z.File {
		r, err := f.Open()
		if err != nil {
			t.Fatal(err)
		}
		b, err := io.ReadAll(r)
		if err != nil {
			t.Fatal(err)
		}
		x := told{Text: string(b), Info: api.Info{Name: f.Name, Size: len(b), Packed: int(f.CompressedSize64), Method: int(f.Method), Sum: f.CRC32, Note: f.Comment}}
		if f.CreatorVersion>>8 == 3 {
			x.Mode = int(f.ExternalAttrs >> 16)
		}
		if f.ModifiedDate != 0 {
			x.Stamp = api.Stamp{Year: 1980 + int(f.ModifiedDate>>9), Month: int(f.ModifiedDate >> 5 & 15), Day: int(f.ModifiedDate & 31), Hour: int(f.ModifiedTime >> 11), Minute: int(f.ModifiedTime >> 5 & 63), Second: int(f.ModifiedTime & 31 * 2)}
		}
		m.entries[f.Name] = x
	}
	return m
}

// further is what an archive's extra texts and descriptors count for in P0.11.
func further(a api.Archive) int {
	n := 0
	for _, x := range a.Entries {
		n += len(x.Extra) + len(x.LocalExtra) + x.To - x.Data - x.Packed
	}
	return 2 * n
}

func TestOtherProgram(t *testing.T) { // P0.10, P0.11: from an archive on that another program has laid down
	from := rand.New(rand.NewSource(101))
	for range 150 {
		image := libraryFile(t, from)
		m := libraryMap(t, image)
		a, e := layout.Parse(image)
		if e != api.OK {
			t.Fatalf("Parse: %d", e)
		}
		d, v := over(t, string(image), 1<<20)
		all, note := mapOf(t, d, v)
		if !maps.Equal(all, m.entries) || note != m.note || d.Calls() != 0 {
			t.Fatalf("%v, %q, want %v, %q", all, note, m.entries, m.note)
		}
		extra := further(a)
		if len(image) > 2*layout.Tight(a.Entries, a.Comment) {
			extra = 1 << 20
		}
		for range 12 {
			x := drawn(from)
			next, reason := m.behind(x, api.Options{})
			if reason == api.OK { // on a disk with just enough room
				d = holds(t, string(image), min(most, 4096+4*(m.room(x)+extra)))
				if x.kind != "batch" {
					d = holds(t, string(image), min(most, 4096+3*(m.room(x)+extra)))
				}
				goes(t, x.run(opened(t, d)))
			} else {
				d = holds(t, string(image), 1<<20)
				fails(t, x.run(opened(t, d)), x.call(), x.faulty, reason)
			}
			m, image = next, d.Image()
			all, note := mapOf(t, d, opened(t, d))
			if !maps.Equal(all, m.entries) || note != m.note {
				t.Fatalf("behind %s: %v, want %v", x.call(), all, m.entries)
			}
		}
	}
}

// openAny opens any file: it goes well or is refused, and of what recovery would do nothing is done where it is refused.
func openAny(t *testing.T, image []byte) api.Errno {
	t.Helper()
	d, e := disk.New(image, 1<<16)
	if e != api.OK {
		t.Fatalf("New: %d", e)
	}
	verdict, content := journal.Look(image)
	v, err := valise.Open(d, api.Options{})
	if err != nil {
		f := err.(*api.Fault)
		fails(t, err, "open", "", f.Reason)
		if v != nil || d.Calls() != 0 || !bytes.Equal(d.Image(), image) {
			t.Fatalf("refused by %d: %d changing calls", f.Reason, d.Calls())
		}
		return f.Reason
	}
	if v.Found() != verdict || !bytes.Equal(d.Image(), content) || verdict.State == api.StateNone && d.Calls() != 0 {
		t.Fatalf("Found %v, want %v; %d bytes, want %d; %d changing calls", v.Found(), verdict, d.Size(), len(content), d.Calls())
	}
	mapOf(t, d, v)
	a, _ := layout.Parse(content)
	if len(names(v)) != len(a.Entries) {
		t.Fatalf("%d names, want %d", len(names(v)), len(a.Entries))
	}
	askAll(v)
	return api.OK
}

func TestAnyFile(t *testing.T) { // P0.14, P0.1
	from := rand.New(rand.NewSource(14))
	count := map[api.Errno]int{}
	for range 300 {
		image := libraryFile(t, from)
		switch from.Intn(4) {
		case 0:
			image = []byte(gapped(t))
		case 1: // a journal behind it
			d, v := over(t, gapped(t), 1<<16)
			d.Fuse(from.Intn(12))
			v.Rename("a", "another")
			found, _ := d.Crash(crashed(from))
			image = found.Image()
		}
		count[openAny(t, image)]++
		for range 20 {
			bad := bytes.Clone(image)
			for range 1 + from.Intn(3) {
				if len(bad) > 0 {
					bad[from.Intn(len(bad))] ^= byte(1 + from.Intn(255))
				}
			}
			switch from.Intn(12) {
			case 0:
				bad = bad[:from.Intn(len(bad)+1)]
			case 1:
				bad = append(bad, make([]byte, from.Intn(3000))...)
			case 2:
				bad = append(bad, bad...)
			}
			count[openAny(t, bad)]++
		}
	}
	for n := range 600 { // no archive at all
		b := make([]byte, n*7)
		from.Read(b)
		count[openAny(t, b)]++
		count[openAny(t, bytes.Repeat([]byte("PK\x05\x06"), n))]++
		count[openAny(t, make([]byte, n*7))]++
	}
	for _, e := range []api.Errno{api.OK, api.ErrLayEnd, api.ErrLayDisk, api.ErrLayDir, api.ErrLayEntry, api.ErrLayLocal, api.ErrSpoilt} {
		if count[e] < 5 {
			t.Errorf("%d: met %d times", e, count[e])
		}
	}
}
