package valise_test

import (
	"strings"
	"testing"

	"valise/api"
	"valise/layout"
)

// recordOf is the directory's record of an entry in a file.
func recordOf(t *testing.T, image []byte, name string) api.Entry {
	t.Helper()
	a, e := layout.Parse(image)
	if e != api.OK {
		t.Fatalf("Parse: %d", e)
	}
	for _, x := range a.Entries {
		if x.Name == name {
			return x
		}
	}
	t.Fatalf("no entry %q", name)
	return api.Entry{}
}

func TestAddRecord(t *testing.T) { // P17.9: what is said of an entry that is added
	late := api.Stamp{Year: 2026, Month: 11, Day: 14, Hour: 15, Minute: 47, Second: 59}
	last := api.Stamp{Year: 2107, Month: 12, Day: 31, Hour: 23, Minute: 59, Second: 58}
	for _, x := range []struct {
		name        string
		how         api.How
		need, flags int
		date, clock int
		external    int
	}{
		{"a", api.How{Method: 0, Stamp: epoch}, 10, 0, 33, 0, 0},
		{"a", api.How{Method: 0, Level: 9, Stamp: late, Mode: 1, Note: "plain \x00\x7f"}, 10, 0, 23918, 32253, 65536},
		{"é", api.How{Method: 0, Stamp: last, Mode: 65535}, 10, 2048, 65439, 49021, 0xffff0000},
		{"a", api.How{Method: 0, Stamp: epoch, Mode: 0100644, Note: "\x80"}, 10, 2048, 33, 0, 0100644 << 16},
		{"a/", api.How{Method: 8, Stamp: epoch}, 20, 0, 33, 0, 0},
		{"a/b", api.How{Method: 8, Level: 1, Stamp: late, Note: "x\xff"}, 20, 2048, 23918, 32253, 0},
		{"é/ü", api.How{Method: 8, Level: 9, Stamp: epoch, Mode: 420, Note: strings.Repeat("ñ", 32767)}, 20, 2048, 33, 0, 420 << 16},
		{"a", api.How{Method: 8, Level: 6, Stamp: epoch, Note: strings.Repeat("n", 65535)}, 20, 0, 33, 0, 0},
	} {
		for _, text := range []string{"", "hello", strings.Repeat("hello, ", 500)} {
			d, v := over(t, "", 1<<20)
			goes(t, v.Add(x.name, []byte(text), x.how))
			want := api.Entry{Central: api.Central{Made: 788, External: x.external, Comment: x.how.Note}}
			bytes := text
			if x.how.Method == 8 {
				bytes = deflated(t, text, x.how.Level)
			}
			want.Local = api.Local{Need: x.need, Flags: x.flags, Method: x.how.Method, Clock: x.clock, Date: x.date, Sum: item("", text).Sum, Packed: len(bytes), Size: len(text), Name: x.name}
			want.Data = 30 + len(x.name)
			want.To = want.Data + len(bytes)
			image := d.Image()
			if got := recordOf(t, image, x.name); got != want {
				t.Errorf("%q by %v: %v, want %v", x.name, x.how, got, want)
			}
			if string(image[want.Data:want.To]) != bytes {
				t.Errorf("%q by %v: the packed bytes %s", x.name, x.how, short(string(image[want.Data:want.To])))
			}
			has(t, d, v, x.name, text)
		}
	}
}

func TestAddRefused(t *testing.T) { // P17.9: in this order
	image := filled(t, "", "a", "1", "b", "2")
	d := holds(t, image, 1<<14)
	v := limited(t, d, api.Options{MaxEntries: 2, MaxData: 3})
	long := []byte("wxyz")
	wrong := []func(*api.How){
		func(h *api.How) { h.Method = 3 },
		func(h *api.How) { h.Method = -1 },
		func(h *api.How) { h.Method = 1 << 62 },
		func(h *api.How) { h.Level = -1 },
		func(h *api.How) { h.Level = 10 },
		func(h *api.How) { h.Method, h.Level = 8, 10 },
		func(h *api.How) { h.Mode = -1 },
		func(h *api.How) { h.Mode = 65536 },
		func(h *api.How) { h.Note = zeros(65536) },
	}
	stamps := []api.Stamp{{}, {Year: 1979, Month: 12, Day: 31}, {Year: 2108, Month: 1, Day: 1}, {Year: 2100, Month: 2, Day: 29}, {Year: 2026, Month: 1, Day: 1, Hour: 24}}
	still(t, d, func() {
		for _, name := range []string{"a", "new", "", "/"} {
			for _, turn := range wrong {
				for _, stamp := range append(stamps, epoch) {
					how := stored
					how.Stamp = stamp
					turn(&how)
					fails(t, v.Add(name, long, how), "add", name, api.ErrArg)
				}
			}
			for _, stamp := range stamps {
				how := stored
				how.Stamp = stamp
				fails(t, v.Add(name, long, how), "add", name, api.ErrStamp)
				how.Method = 8
				fails(t, v.Add(name, nil, how), "add", name, api.ErrStamp)
			}
		}
		for _, name := range []string{"", "/", "..", "a//b", "a/../b", "a\\b", "\xff", "a\x00", strings.Repeat("n", 65536)} {
			fails(t, v.Add(name, long, stored), "add", name, api.ErrName)
			fails(t, v.Add(name, nil, packed), "add", name, api.ErrName)
		}
		fails(t, v.Add("new", long, stored), "add", "new", api.ErrMany)
		fails(t, v.Add("new", nil, packed), "add", "new", api.ErrMany)
		fails(t, v.Add("a", long, stored), "add", "a", api.ErrBig)
		fails(t, v.Add("a", long, packed), "add", "a", api.ErrBig)
	})
	has(t, d, v, "a", "1", "b", "2")
	puts(t, v, "a", "wxy") // just as much as may be
	goes(t, v.Add("b", []byte("wxy"), packed))
	has(t, d, v, "a", "wxy", "b", "wxy")
}

func TestAddLimits(t *testing.T) { // P17.9: options speak of what Add may do alone
	image := filled(t, "", "a", "many bytes", "b", "2", "c", "3")
	d := holds(t, image, 1<<14)
	v := limited(t, d, api.Options{MaxEntries: 2, MaxData: 3})
	has(t, d, v, "a", "many bytes", "b", "2", "c", "3")
	puts(t, v, "b", "two") // in its place, though there are more than may be
	fails(t, v.Add("d", nil, stored), "add", "d", api.ErrMany)
	goes(t, v.Rename("a", "d"))
	goes(t, v.Delete("b"))
	fails(t, v.Add("e", nil, stored), "add", "e", api.ErrMany) // as many as may be
	goes(t, v.Delete("c"))
	puts(t, v, "e", "new")
	has(t, d, v, "d", "many bytes", "e", "new")
	goes(t, v.Close())
	v = limited(t, d, api.Options{MaxEntries: 3})
	puts(t, v, "f", strings.Repeat("f", 5000))
	fails(t, v.Add("g", nil, stored), "add", "g", api.ErrMany)
	v = limited(t, d, api.Options{MaxData: 4999})
	fails(t, v.Add("g", []byte(strings.Repeat("g", 5000)), packed), "add", "g", api.ErrBig) // the plain text counts
	puts(t, v, "g", strings.Repeat("g", 4999))
}

func TestAddReplaces(t *testing.T) { // P17.9: in the place of the one that had the name
	d, v := over(t, filled(t, "note", "a", "one", "b", "two", "c", "three"), 1<<14)
	how := api.How{Method: 8, Level: 9, Stamp: api.Stamp{Year: 2000, Month: 2, Day: 29}, Mode: 7, Note: "new"}
	goes(t, v.Add("b", []byte("another"), how))
	has(t, d, v, "a", "one", "b", "another", "c", "three")
	want := api.Info{Name: "b", Size: 7, Packed: len(deflated(t, "another", 9)), Method: 8, Sum: item("", "another").Sum, Stamp: how.Stamp, Mode: 7, Note: "new"}
	if got, err := v.Stat("b"); got != want || err != nil {
		t.Errorf("Stat = %v, %v", got, err)
	}
	still(t, d, func() { goes(t, v.Add("b", []byte("another"), how)) }) // it is there so already, and comes to lie where it lay
}
