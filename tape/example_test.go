package tape_test

import (
	"strings"
	"testing"

	"valise/api"
	"valise/tape"
)

func TestExampleEnds(t *testing.T) { // example 1
	put(t, zeros(1024))
	get(t, zeros(1024))
	no(t, zeros(1023), api.ErrTapeShort)
	no(t, zeros(512)+strings.Repeat("x", 512), api.ErrTapeHead)
	no(t, "", api.ErrTapeShort)
}

func TestExamplePut(t *testing.T) { // example 2
	out, e := tape.Put([]api.File{a()})
	if len(out) != 2048 || e != api.OK {
		t.Fatalf("Put: %d bytes, %d", len(out), e)
	}
	for at, want := range map[int]string{
		0: "a\x00", 100: "0000644\x00", 124: "00000000002\x00", 136: "00000000001\x00", 148: "007341\x00 ", 156: "0\x00",
		257: "ustar\x0000", 329: "0000000\x000000000\x00", 512: "hi\x00",
	} {
		if got := string(out[at : at+len(want)]); got != want {
			t.Errorf("at %d: %q, want %q", at, got, want)
		}
	}
	if n := ofA().sum(); n != 3809 {
		t.Errorf("the sum is %d", n)
	}
	both(t, tapeOf(ofA()), a())
}

func TestExampleNumbers(t *testing.T) { // example 3
	h := ofA()
	h.mode = "   644 \x00"
	get(t, tapeOf(h), a())
	h.mode = "00006444"
	no(t, tapeOf(h), api.ErrTapeHead)
	h.mode = "00006448"
	no(t, tapeOf(h), api.ErrTapeHead)
	h.mode = "0000648\x00"
	no(t, tapeOf(h), api.ErrTapeHead)
}

func TestExampleNames(t *testing.T) { // example 4
	refuse(t, api.ErrTapeField, api.File{Name: strings.Repeat("n", 101)})
	h := ofA()
	h.prefix, h.name = padded(strings.Repeat("p", 150), 155), padded(strings.Repeat("n", 90), 100)
	f := a()
	f.Name = strings.Repeat("p", 150) + "/" + strings.Repeat("n", 90)
	both(t, tapeOf(h), f)
	refuse(t, api.ErrTapeField, api.File{Name: strings.Repeat("p", 160) + "/n"})
	refuse(t, api.ErrTapeField, api.File{Name: "/" + strings.Repeat("n", 100)})
}

func TestExampleUnsound(t *testing.T) { // example 5
	refuse(t, api.ErrTapeField, api.File{Name: "d", Kind: 5})
	if _, e := tape.Put([]api.File{{Name: "d/", Kind: 5}}); e != api.OK {
		t.Errorf("a folder: %d", e)
	}
	refuse(t, api.ErrTapeField, api.File{Name: "d/"})
	refuse(t, api.ErrTapeField, api.File{Name: "l", Kind: 2})
	refuse(t, api.ErrTapeField, api.File{Name: "l", Kind: 1})
	refuse(t, api.ErrTapeField, api.File{Name: "f", Mode: 2097152})
}

func TestExampleArchives(t *testing.T) { // example 6
	_, v := over(t, "", 1<<16)
	how := api.How{Method: 8, Level: 6, Mode: 33188, Stamp: api.Stamp{Year: 1980, Month: 1, Day: 1, Second: 2}}
	goes(t, v.Add("b", []byte("x"), how))
	goes(t, v.Add("a/", nil, how))
	data := exports(t, v, api.File{Name: "a/", Kind: 5, Mode: 33188, Time: 315532802}, api.File{Name: "b", Mode: 33188, Time: 315532802, Data: []byte("x")})
	_, w := over(t, "", 1<<16)
	imports(t, w, data, how, 2)
	exports(t, w, api.File{Name: "a/", Kind: 5, Mode: 33188, Time: 315532802}, api.File{Name: "b", Mode: 33188, Time: 315532802, Data: []byte("x")})
	refusesImport(t, w, zeros(100), how, "import", "", 242)
	refusesExport(t, nil, "list", "", 1)
}

func TestExampleReadme(t *testing.T) { // what README.md says
	dir := api.File{Name: "d/", Kind: 5, Mode: 0755, Time: 1794960000}
	f := api.File{Name: "d/a", Mode: 0644, Time: 1794960000, User: "me", Data: []byte("hello")}
	link := api.File{Name: "l", Kind: 2, Link: "d/a"}
	data, e := tape.Put([]api.File{dir, f, link})
	if len(data) != 3072 || e != api.OK {
		t.Fatalf("Put: %d bytes, %d", len(data), e)
	}
	get(t, string(data), dir, f, link)
	_, v := over(t, "", 1<<20)
	how := api.How{Method: api.MethodDeflate, Level: 6}
	refusesImport(t, v, string(data), how, "import", "l", api.ErrTapeField)
	data, e = tape.Put([]api.File{dir, f})
	if e != api.OK {
		t.Fatalf("Put: %d", e)
	}
	imports(t, v, string(data), how, 2)
	f.User = ""
	exports(t, v, dir, f)
}
