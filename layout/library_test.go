package layout_test

import (
	"archive/zip"
	"bytes"
	"io"
	"testing"
	"time"

	"valise/api"
	"valise/deflate"
	"valise/field"
	"valise/inflate"
	"valise/layout"
	"valise/record"
)

// libraryFile is an archive that another program has laid down: stored and packed entries, told late or not, folders, notes, extra texts.
func libraryFile(t *testing.T, texts map[string]string, order []string) []byte {
	t.Helper()
	var file bytes.Buffer
	file.WriteString("#! something ahead of the archive\n")
	w := zip.NewWriter(&file)
	w.SetOffset(int64(file.Len()))
	w.SetComment("of the whole")
	for i, name := range order {
		h := &zip.FileHeader{Name: name, Comment: "of " + name, Method: uint16(i % 2 * 8), Modified: time.Date(2026, 11, 17, 1, 2, 4, 0, time.UTC)}
		f, err := w.CreateHeader(h)
		if err == nil && texts[name] != "" {
			_, err = io.WriteString(f, texts[name])
		}
		if err != nil {
			t.Fatal(err)
		}
	}
	if err := w.Close(); err != nil {
		t.Fatal(err)
	}
	return file.Bytes()
}

func TestLibraryWrites(t *testing.T) { // P13.5: what another program wrote is parsed
	texts := map[string]string{"a": "some text", "b": "bbbbbbbbbbbbbbbbbbbbbbbbbbb", "dir/": "", "dir/é": "", "dir/c": "more"}
	order := []string{"dir/", "b", "a", "dir/é", "dir/c"}
	file := libraryFile(t, texts, order)
	a, e := layout.Parse(file)
	if e != api.OK || len(a.Entries) != len(order) || a.Comment != "of the whole" || a.Size != len(file) {
		t.Fatalf("%v, %d", a, e)
	}
	z, err := zip.NewReader(bytes.NewReader(file), int64(len(file)))
	if err != nil {
		t.Fatal(err)
	}
	for i, x := range a.Entries {
		data, err := z.File[i].DataOffset()
		if x.Name != order[i] || x.Comment != "of "+x.Name || err != nil || x.Data != int(data) {
			t.Errorf("%v, %d", x, data)
		}
		plain := file[x.Data : x.Data+x.Packed]
		if x.Method == api.MethodDeflate {
			plain, e = inflate.Exact(plain, x.Size)
		}
		if e != api.OK || string(plain) != texts[x.Name] || field.Sum(plain) != x.Sum {
			t.Errorf("%q: %q, %d", x.Name, plain, e)
		}
	}
	gaps(t, a, span(0, len("#! something ahead of the archive\n")))
	putsAgain(t, string(file), a)
	b, e := plainParse(string(file))
	if e != api.OK || !sameArchive(a, b) {
		t.Errorf("the model: %d", e)
	}
}

func TestLibraryReads(t *testing.T) { // P13.10: what is rendered is an archive to another program
	plain := "the plain text, the plain text"
	packed, e := deflate.Deflate([]byte(plain), 6)
	if e != api.OK {
		t.Fatal(e)
	}
	first, second := item("dir/é", plain), item("b", string(packed))
	first.Flags, first.Sum, first.Comment, first.Extra = 2048, field.Sum([]byte(plain)), "of it", "\x99\x99\x01\x00x"
	second.Method, second.Size, second.Sum, second.Need = 8, len(plain), first.Sum, 20
	first.Date, first.Clock, e = record.PackStamp(api.Stamp{Year: 2026, Month: 11, Day: 17})
	if e != api.OK {
		t.Fatal(e)
	}
	file, e := layout.Render([]api.Item{first, second, item("empty", "")}, "of the whole")
	if e != api.OK {
		t.Fatal(e)
	}
	z, err := zip.NewReader(bytes.NewReader(file), int64(len(file)))
	if err != nil || len(z.File) != 3 || z.Comment != "of the whole" || z.File[0].Comment != "of it" || z.File[0].Name != "dir/é" {
		t.Fatalf("%v", err)
	}
	for i, want := range []string{plain, plain, ""} {
		r, err := z.File[i].Open()
		if err != nil {
			t.Fatal(err)
		}
		if got, err := io.ReadAll(r); string(got) != want || err != nil {
			t.Errorf("%q: %q, %v", z.File[i].Name, got, err)
		}
	}
}
