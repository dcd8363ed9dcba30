package tape_test

import (
	"archive/tar"
	"bytes"
	"io"
	"math/rand"
	"strings"
	"testing"
	"time"

	"valise/api"
	"valise/tape"
)

// libraryKinds are Go's own words for the kinds.
var libraryKinds = map[int]byte{0: tar.TypeReg, 2: tar.TypeSymlink, 5: tar.TypeDir}

// asciiFile makes a file one that Go's own library writes: it has no letters beyond ASCII there.
func asciiFile(f api.File) api.File {
	for _, text := range []*string{&f.Name, &f.Link, &f.User, &f.Team} {
		*text = strings.ReplaceAll(*text, "\xff", "z")
	}
	return f
}

func TestToLibrary(t *testing.T) { // P24.1: another program reads it
	from := rand.New(rand.NewSource(2411))
	for range 2000 {
		files := drawFiles(from)
		out, e := tape.Put(files)
		if e != api.OK {
			t.Fatalf("Put: %d", e)
		}
		r := tar.NewReader(bytes.NewReader(out))
		for i, f := range files {
			h, err := r.Next()
			if err != nil && err != tar.ErrInsecurePath {
				t.Fatalf("the file %d of %s: %v", i, brief(files...), err)
			}
			data, err := io.ReadAll(r)
			if err != nil || !bytes.Equal(data, f.Data) {
				t.Fatalf("the file %d: %d bytes, %v", i, len(data), err)
			}
			if h.Name != f.Name || h.Linkname != f.Link || h.Uname != f.User || h.Gname != f.Team || h.Typeflag != libraryKinds[f.Kind] {
				t.Fatalf("the file %d: %+v, want %s", i, h, brief(f))
			}
			if int(h.Mode) != f.Mode || h.Uid != f.Owner || h.Gid != f.Group || int(h.ModTime.Unix()) != f.Time || h.Devmajor != 0 || h.Devminor != 0 {
				t.Fatalf("the file %d: %+v, want %s", i, h, brief(f))
			}
			if ascii := asciiFile(f); h.Format != tar.FormatUSTAR && ascii.Name+ascii.Link+ascii.User+ascii.Team == f.Name+f.Link+f.User+f.Team {
				t.Fatalf("the file %d: the form %v", i, h.Format)
			}
		}
		if _, err := r.Next(); err != io.EOF {
			t.Fatalf("behind the files: %v", err)
		}
	}
}

func TestFromLibrary(t *testing.T) { // P24.2: what another program wrote
	from := rand.New(rand.NewSource(2412))
	count := 0
	for range 4000 {
		var b bytes.Buffer
		var want []api.File
		w := tar.NewWriter(&b)
		for _, f := range drawFiles(from) {
			f = asciiFile(f)
			h := &tar.Header{
				Typeflag: libraryKinds[f.Kind], Name: f.Name, Linkname: f.Link, Uname: f.User, Gname: f.Team, Format: tar.FormatUSTAR,
				Mode: int64(f.Mode), Uid: f.Owner, Gid: f.Group, Size: int64(len(f.Data)), ModTime: time.Unix(int64(f.Time), 0),
			}
			if err := w.WriteHeader(h); err != nil { // it cuts names at another slash, and not all of them
				w = nil
				break
			}
			w.Write(f.Data)
			want = append(want, f)
		}
		if w == nil {
			continue
		}
		if err := w.Close(); err != nil {
			t.Fatal(err)
		}
		get(t, b.String(), want...)
		again(t, b.String(), want)
		count++
	}
	if count < 2000 {
		t.Errorf("%d tapes of another program", count)
	}
}

func TestFromLibraryOthers(t *testing.T) { // P24.2: tapes of other forms
	for _, format := range []tar.Format{tar.FormatGNU, tar.FormatPAX} {
		var b bytes.Buffer
		w := tar.NewWriter(&b)
		if err := w.WriteHeader(&tar.Header{Name: strings.Repeat("n", 300), Format: format}); err != nil {
			t.Fatal(err)
		}
		w.Close()
		no(t, b.String(), api.ErrTapeHead)
	}
}
