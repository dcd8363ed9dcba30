package wrap_test

import (
	"bytes"
	"compress/gzip"
	"compress/zlib"
	"io"
	"strings"
	"testing"
	"time"

	"valise/api"
	"valise/wrap"
)

// texts has plain texts of several kinds.
func texts() []string {
	return []string{"", "a", filler(330, 70), filler(331, 20000), strings.Repeat("some text, ", 9000), strings.Repeat("\x00", 200000)}
}

func TestZlibToLibrary(t *testing.T) { // P23.3: another program unpacks it
	for _, plain := range texts() {
		for level := range 10 {
			data, _ := wrap.PutZlib([]byte(plain), level)
			r, err := zlib.NewReader(bytes.NewReader(data))
			if err != nil {
				t.Fatal(err)
			}
			if out, err := io.ReadAll(r); string(out) != plain || err != nil {
				t.Errorf("level %d: %d of %d bytes, %v", level, len(out), len(plain), err)
			}
		}
	}
}

func TestZlibFromLibrary(t *testing.T) { // P23.4: what another program packed
	for _, plain := range texts() {
		for level := -2; level < 10; level++ {
			for _, dictionary := range []string{"", "some text"} {
				var b bytes.Buffer
				w, err := zlib.NewWriterLevelDict(&b, level, []byte(dictionary))
				if dictionary == "" {
					w, err = zlib.NewWriterLevel(&b, level)
				}
				if err != nil {
					t.Fatal(err)
				}
				io.WriteString(w, plain[:len(plain)/2])
				w.Flush()
				io.WriteString(w, plain[len(plain)/2:])
				w.Close()
				if dictionary != "" {
					noZlib(t, b.String(), len(plain), api.ErrWrapField)
					continue
				}
				getZlib(t, b.String(), len(plain), plain)
				noZlib(t, b.String()+"\x00", len(plain), api.ErrInfRest)
			}
		}
	}
}

func TestGzipToLibrary(t *testing.T) { // P23.5: another program unpacks it, and reads its heads
	for level := range 10 {
		var members []api.Member
		for i, plain := range texts() {
			m := api.Member{Text: i%2 == 0, Time: i * 1000000, System: i, Data: []byte(plain)}
			m.Checked = i%3 == 0
			m.Name = strings.Repeat("name", i%3)
			m.Note = strings.Repeat("note", i%4)
			m.Extra = strings.Repeat("ab\x02\x00xy", i%5)
			members = append(members, m)
		}
		data, _ := wrap.PutGzip(level, members...)
		in := bytes.NewReader(data)
		var r gzip.Reader
		for i, m := range members {
			if err := r.Reset(in); err != nil {
				t.Fatalf("the member %d: %v", i, err)
			}
			r.Multistream(false)
			out, err := io.ReadAll(&r)
			if !bytes.Equal(out, m.Data) || err != nil {
				t.Errorf("the member %d: %d of %d bytes, %v", i, len(out), len(m.Data), err)
			}
			seconds := 0
			if !r.ModTime.IsZero() {
				seconds = int(r.ModTime.Unix())
			}
			if r.Name != m.Name || r.Comment != m.Note || string(r.Extra) != m.Extra || int(r.OS) != m.System || seconds != m.Time {
				t.Errorf("the member %d: %v", i, r.Header)
			}
		}
		if in.Len() > 0 {
			t.Errorf("%d bytes are left", in.Len())
		}
	}
}

func TestGzipFromLibrary(t *testing.T) { // P23.6: what another program packed
	for level := -2; level < 10; level++ {
		var b bytes.Buffer
		var want []api.Member
		for i, plain := range texts() {
			w, err := gzip.NewWriterLevel(&b, level)
			if err != nil {
				t.Fatal(err)
			}
			w.Name, w.Comment, w.OS = strings.Repeat("name", i%3), strings.Repeat("note", i%4), byte(i)
			if i%2 == 1 {
				w.Extra = []byte("ab\x02\x00xy")
				w.ModTime = time.Unix(int64(i*1000000), 0)
			}
			io.WriteString(w, plain[:len(plain)/2])
			w.Flush()
			io.WriteString(w, plain[len(plain)/2:])
			if err := w.Close(); err != nil {
				t.Fatal(err)
			}
			m := api.Member{Name: w.Name, Note: w.Comment, Extra: string(w.Extra), System: i, Time: i % 2 * i * 1000000, Data: []byte(plain)}
			m.Hint = map[int]int{9: 2, 1: 4}[level]
			want = append(want, m)
		}
		getGzip(t, b.String(), sizeOf(want), want...)
		noGzip(t, b.String(), sizeOf(want)-1, api.ErrInfLimit)
	}
}
