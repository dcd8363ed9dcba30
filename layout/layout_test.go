package layout_test

import (
	"fmt"
	"slices"
	"strings"
	"testing"

	"valise/api"
	"valise/layout"
	"valise/record"
)

// sameArchive tells whether two archives are alike in all.
func sameArchive(a, b api.Archive) bool {
	return slices.Equal(a.Entries, b.Entries) && a.DirAt == b.DirAt && a.Size == b.Size && a.Comment == b.Comment
}

// brief is an archive in so many words as can be read.
func brief(a api.Archive) string {
	return fmt.Sprintf("{%d entries %.50v, directory at %d, %d bytes, %.50q}", len(a.Entries), a.Entries[:min(4, len(a.Entries))], a.DirAt, a.Size, a.Comment)
}

func parses(t *testing.T, file string, a api.Archive, want api.Errno) {
	t.Helper()
	if b, e := layout.Parse([]byte(file)); !sameArchive(a, b) || e != want {
		t.Errorf("Parse(%.300q) = %s, %d, want %s, %d", file, brief(b), e, brief(a), want)
	}
}

func refuses(t *testing.T, file string, want api.Errno) {
	t.Helper()
	parses(t, file, api.Archive{}, want)
}

func ends(t *testing.T, file string, at int, want api.Errno) {
	t.Helper()
	if p, e := layout.FindEnd([]byte(file)); p != at || e != want {
		t.Errorf("FindEnd(%d bytes, %.100q) = %d, %d, want %d, %d", len(file), file, p, e, at, want)
	}
}

func renders(t *testing.T, items []api.Item, comment, file string, want api.Errno) {
	t.Helper()
	if b, e := layout.Render(items, comment); string(b) != file || e != want || e != api.OK && b != nil {
		t.Errorf("Render(%d items, %.50q) = %.300q, %d, want %.300q, %d", len(items), comment, b, e, file, want)
	}
}

func directs(t *testing.T, records []api.Central, at int, comment, text string, want api.Errno) {
	t.Helper()
	if b, e := layout.Directory(records, at, comment); string(b) != text || e != want || e != api.OK && b != nil {
		t.Errorf("Directory(%d records, %d, %.50q) = %.300q, %d, want %.300q, %d", len(records), at, comment, b, e, text, want)
	}
}

func extents(t *testing.T, a api.Archive, want ...api.Span) {
	t.Helper()
	if got := layout.Extents(a); !slices.Equal(got, want) {
		t.Errorf("Extents(%s) = %v, want %v", brief(a), got, want)
	}
}

func gaps(t *testing.T, a api.Archive, want ...api.Span) {
	t.Helper()
	if got := layout.Gaps(a); !slices.Equal(got, want) {
		t.Errorf("Gaps(%s) = %v, want %v", brief(a), got, want)
	}
}

// spanned is an archive with its directory at a place and entries of these spans: the first one's From and To, the second one's, and so on.
func spanned(dir int, places ...int) api.Archive {
	a := api.Archive{DirAt: dir}
	for pair := range slices.Chunk(places, 2) {
		a.Entries = append(a.Entries, api.Entry{From: pair[0], To: pair[1]})
	}
	return a
}

// part is an entry as a test lays it down, by itself: what the directory says, what the local header says, the bytes, and what stands ahead and behind.
type part struct {
	record api.Central // At is told by the place
	local  api.Local
	data   string
	behind string // the descriptor, or something in its place
	gap    string // ahead of the local header
}

// plainPart is a part that is right, stored and not told late.
func plainPart(name, data string) part {
	c := item(name, data).Central
	return part{record: c, local: c.Local, data: data}
}

// latePart is a part that is told late, with or without the descriptor's signature.
func latePart(name, data string, signed bool) part {
	x := plainPart(name, data)
	x.record.Flags, x.record.Sum = 8, 0x01020304
	x.local = x.record.Local
	x.local.Sum, x.local.Packed, x.local.Size = 0, 0, 0
	b, _ := record.PutDescriptor(x.record.Local, signed)
	x.behind = string(b)
	return x
}

// frame is what stands around the parts: bytes behind the last one, the comment, the directory's order (as the parts stand, if nil), and a last change of the end record and of the records.
type frame struct {
	gap     string
	comment string
	order   []int
	end     func(x *api.End)
	record  func(i int, c *api.Central)
}

// lay lays parts down, by layer 12 alone.
func (f frame) lay(parts ...part) string {
	var file strings.Builder
	records := make([]api.Central, len(parts))
	for i, x := range parts {
		file.WriteString(x.gap)
		records[i] = x.record
		records[i].At = file.Len()
		if f.record != nil {
			f.record(i, &records[i])
		}
		b, _ := record.PutLocal(x.local)
		file.Write(b)
		file.WriteString(x.data + x.behind)
	}
	file.WriteString(f.gap)
	at := file.Len()
	for i := range records {
		if f.order != nil {
			i = f.order[i]
		}
		b, _ := record.PutCentral(records[i])
		file.Write(b)
	}
	end := api.End{Here: len(parts), Total: len(parts), DirSize: file.Len() - at, DirAt: at, Comment: f.comment}
	if f.end != nil {
		f.end(&end)
	}
	b, _ := record.PutEnd(end)
	return file.String() + string(b)
}
