package layout_test

import (
	"math/rand"
	"slices"
	"testing"

	"valise/api"
	"valise/layout"
	"valise/record"
)

// givesBack holds Parse of what Render answered against what it was given.
func givesBack(t *testing.T, file string, items []api.Item, comment string) { // P13.11
	t.Helper()
	want := api.Archive{Size: len(file), Comment: comment}
	for _, x := range items {
		x.At = want.DirAt
		y := api.Entry{Central: x.Central, LocalExtra: x.Extra, From: x.At}
		y.Data = y.From + 30 + len(x.Name) + len(x.Extra)
		y.To = y.Data + len(x.Bytes)
		want.Entries, want.DirAt = append(want.Entries, y), y.To
		if got := file[y.Data:y.To]; got != string(x.Bytes) {
			t.Errorf("the bytes of %q: %q", x.Name, got)
		}
	}
	parses(t, file, want, api.OK)
	gaps(t, want)
	if n := layout.Tight(want.Entries, comment); n != len(file) {
		t.Errorf("Tight = %d of an archive of %d bytes", n, len(file))
	}
}

// putsAgain puts the records of an archive again, and holds them against the file.
func putsAgain(t *testing.T, file string, a api.Archive) { // P13.12
	t.Helper()
	var records []api.Central
	for _, x := range a.Entries {
		records = append(records, x.Central)
		l := x.Local
		l.Extra = x.LocalExtra
		b, _ := record.PutLocal(l)
		if late(x.Central) && string(b) != file[x.From:x.Data] {
			l.Sum, l.Packed, l.Size = 0, 0, 0
			b, _ = record.PutLocal(l)
		}
		if string(b) != file[x.From:x.Data] {
			t.Errorf("the local header of %q: %q, not %q", x.Name, b, file[x.From:x.Data])
		}
	}
	directs(t, records, a.DirAt, a.Comment, file[a.DirAt:], api.OK)
	spans := slices.Concat(layout.Extents(a), layout.Gaps(a))
	slices.SortFunc(spans, func(s, u api.Span) int { return s.From - u.From })
	at := 0
	for _, s := range spans {
		if s.From != at || s.To <= s.From {
			t.Errorf("%v of the spans %v", s, spans)
		}
		at = s.To
	}
	if at != a.DirAt {
		t.Errorf("the spans %v end at %d, the directory begins at %d", spans, at, a.DirAt)
	}
}

// Which bytes of a file have a meaning to Parse.
const (
	must = iota // each change is seen
	may         // a change may be seen
	free        // no change is seen
)

// meanings tells for each byte of an archive's file what P13.13 says of it.
func meanings(a api.Archive) []int {
	m := make([]int, a.Size)
	for at := range a.DirAt {
		m[at] = free
	}
	for _, x := range a.Entries {
		for at := x.From; at < x.To; at++ {
			m[at] = must
			if at >= x.Data && at < x.Data+x.Packed {
				m[at] = free
			}
			if late(x.Central) && at >= x.From+14 && at < x.From+26 {
				m[at] = may
			}
		}
	}
	return m
}

// changesShow changes each byte of a file to some others.
func changesShow(t *testing.T, file string, a api.Archive, others func(b byte) []byte) { // P13.13
	t.Helper()
	for at, m := range meanings(a) {
		for _, b := range others(file[at]) {
			got, e := layout.Parse([]byte(with(file, at, b)))
			if same := e == api.OK && sameArchive(a, got); m == must && same || m == free && !same {
				t.Fatalf("the byte %d of %q as %x: %v, %d", at, file, b, got, e)
			}
		}
	}
}

func TestBackDrawn(t *testing.T) { // P13.12, P13.13
	from := rand.New(rand.NewSource(1312))
	for n := 0; n < 400; {
		file := drawFile(from)
		a, e := layout.Parse([]byte(file))
		if e != api.OK || len(file) == 0 {
			continue
		}
		n++
		putsAgain(t, file, a)
		changesShow(t, file, a, func(b byte) []byte {
			return []byte{b + byte(1+from.Intn(255)), b ^ 1<<from.Intn(8)}
		})
	}
}

func TestBackEvery(t *testing.T) { // P13.12, P13.13: each byte as each other one
	parts := []part{plainPart("a", "one"), latePart("b", "two", true), latePart("c/", "", false)}
	parts[0].gap, parts[1].gap = "-", "--"
	parts[0].record.Comment, parts[0].record.Extra, parts[0].local.Extra = "n", "ab\x01\x00c", "de\x00\x00"
	for _, file := range []string{none, endOf(1) + "c", known, frame{gap: "---", comment: "note", order: []int{2, 0, 1}}.lay(parts...)} {
		a, e := layout.Parse([]byte(file))
		if e != api.OK {
			t.Fatal(e)
		}
		putsAgain(t, file, a)
		changesShow(t, file, a, func(b byte) []byte {
			var others []byte
			for c := range 256 {
				if byte(c) != b {
					others = append(others, byte(c))
				}
			}
			return others
		})
	}
}

func TestBackRender(t *testing.T) { // P13.11
	items := []api.Item{item("a", "hi"), item("dir/", ""), item("b", none)}
	items[1].Extra, items[2].Comment = "ab\x01\x00c", "note"
	file, e := layout.Render(items, "of all")
	if e != api.OK {
		t.Fatal(e)
	}
	givesBack(t, string(file), items, "of all")
}
