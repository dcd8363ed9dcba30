package salvage_test

import (
	"archive/zip"
	"bytes"
	"compress/flate"
	"io"
	"strings"
	"testing"

	"valise/api"
	"valise/field"
	"valise/inflate"
	"valise/salvage"
)

// scans asks how many entries are found.
func scans(t *testing.T, file string, want int) {
	t.Helper()
	if found, e := salvage.Scan([]byte(file)); len(found) != want || e != api.OK {
		t.Errorf("Scan(%d bytes, %.60q) = %s, %d, want %d entries", len(file), file, brief(found), e, want)
	}
}

// whole is as many times a text as the greatest file holds.
func whole(text string) string { return strings.Repeat(text, api.MaxCapacity/len(text)) }

func TestBigNothing(t *testing.T) { // P0.1: the greatest files in which nothing stands end soon
	for _, text := range []string{"\x00", "P", "PK", "PK\x03\x04", "PK\x03\x04\x14\x00\x08\x00\x08\x00", "PK\x03\x04\x0a\x00\x00\x00\x00\x00"} {
		scans(t, whole(text), 0)
	}
	head := late(packedAs("a", "", ""), true)[:31]
	scans(t, whole(head), 0)                        // told late, and what stands behind is no packed text
	scans(t, whole(head+"\x03\x00"+filled(12)), 0)  // one without its descriptor
	scans(t, whole(head+"\x00\x01\x00\xfe\xff"), 0) // one that isn't whole
}

func TestBigClaims(t *testing.T) { // P0.1: headers that each claim all that stands behind, and more than a million bytes of it
	for _, make := range []func(name, text string) api.Item{stored, packed} {
		x := make("a", "text")
		var file strings.Builder
		for n := api.MaxCapacity; n > api.MaxCapacity/2; n -= 31 {
			x.Bytes, x.Packed = nil, n-31
			if x.Method == api.MethodStore {
				x.Size = x.Packed
			}
			file.WriteString(laid(x))
		}
		scans(t, file.String()+filled(api.MaxCapacity-file.Len()), 0)
	}
}

func TestBigMany(t *testing.T) { // P19.1, P19.2: as many entries as there is room for
	x, y := stored("a", ""), packed("a", strings.Repeat("text", 20))
	scans(t, whole(laid(x)), api.MaxCapacity/len(laid(x)))
	scans(t, whole(late(y, true)), api.MaxCapacity/len(late(y, true)))
	rebuilds(t, whole(laid(y)), string(rendered(t, y)), api.OK)
}

func TestBigTexts(t *testing.T) { // 'Words' 3 and 5: the longest plain text, and one of a byte more
	for _, n := range []int{api.MaxCapacity, api.MaxCapacity + 1} {
		var b bytes.Buffer
		w, _ := flate.NewWriter(&b, 1)
		w.Write(make([]byte, n))
		w.Close()
		x := packedAs("a", "", b.String())
		x.Size, x.Sum = n, field.Sum(make([]byte, n))
		if n > api.MaxCapacity {
			finds(t, laid(x))
			finds(t, late(x, true))
			continue
		}
		finds(t, laid(x), entry(x, 0, 0))
		finds(t, late(x, true), entry(marked(x), 0, 16))
	}
}

func TestLibrary(t *testing.T) { // P19.3: what another program wrote, told late as it does, and cut
	texts := []string{"", "a", strings.Repeat("some text ", 1000), strings.Repeat("\x00", 70000), filled(5000)}
	var file bytes.Buffer
	w := zip.NewWriter(&file)
	var ends []int
	for i, text := range texts {
		f, err := w.CreateHeader(&zip.FileHeader{Name: string(rune('a' + i)), Method: zip.Deflate})
		if err == nil {
			_, err = io.WriteString(f, text)
		}
		if err == nil {
			err = w.Flush()
		}
		if err != nil {
			t.Fatal(err)
		}
		ends = append(ends, file.Len())
	}
	if err := w.Close(); err != nil {
		t.Fatal(err)
	}
	for n := range ends { // the descriptor comes with the next entry, or with the directory
		found, e := salvage.Scan(file.Bytes()[:ends[n]])
		if e != api.OK || len(found) != n {
			t.Fatalf("cut to %d: %s, %d", ends[n], brief(found), e)
		}
	}
	found, e := salvage.Scan(file.Bytes())
	if e != api.OK || namesOf(found) != "a b c d e " {
		t.Fatalf("%s, %d", brief(found), e)
	}
	for i, x := range found {
		if plain, e := inflate.Exact(file.Bytes()[x.Data:x.Data+x.Packed], x.Size); e != api.OK || string(plain) != texts[i] {
			t.Errorf("%s: %d", brief(found[i:]), e)
		}
	}
	b, e := salvage.Rebuild(file.Bytes())
	z, err := zip.NewReader(bytes.NewReader(b), int64(len(b)))
	if e != api.OK || err != nil || len(z.File) != len(texts) {
		t.Fatalf("%d, %v", e, err)
	}
	for i, f := range z.File {
		r, err := f.Open()
		if err != nil {
			t.Fatal(err)
		}
		if got, err := io.ReadAll(r); err != nil || string(got) != texts[i] {
			t.Errorf("%q: %d bytes, %v", f.Name, len(got), err)
		}
	}
}
