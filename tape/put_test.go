package tape_test

import (
	"slices"
	"strings"
	"testing"

	"valise/api"
	"valise/tape"
)

func TestPutFields(t *testing.T) { // P24.1: each field in its place
	full := api.File{Name: "a", Link: "to", User: "me", Team: "us", Kind: 2, Mode: 1, Owner: 2, Group: 3, Time: 4}
	h := ofA()
	h.link, h.user, h.team, h.kind = padded("to", 100), padded("me", 32), padded("us", 32), "2"
	h.mode, h.owner, h.group, h.time, h.size = octal(1, 8), octal(2, 8), octal(3, 8), octal(4, 12), octal(0, 12)
	both(t, taped(h.summed()), full)
	full.Kind, full.Link, full.Name = 5, "", "a/"
	h.kind, h.link, h.name = "5", zeros(100), padded("a/", 100)
	both(t, taped(h.summed()), full)
	full.Kind, full.Name, full.Data = 0, "a", []byte("hi")
	h.kind, h.name, h.size = "0", padded("a", 100), octal(2, 12)
	both(t, tapeOf(h), full)
}

func TestPutFullFields(t *testing.T) { // P24.1: each text as long as may be, each number as great
	n := func(n int) string { return strings.Repeat("\xff", n) }
	f := api.File{Name: n(155) + "/" + n(100), Link: n(100), User: n(31), Team: n(31), Kind: 2, Mode: 2097151, Owner: 2097151, Group: 2097151, Time: 8589934591}
	h := ofA()
	h.prefix, h.name, h.link, h.user, h.team, h.kind = n(155), n(100), n(100), n(31)+"\x00", n(31)+"\x00", "2"
	h.mode, h.owner, h.group, h.time, h.size = "7777777\x00", "7777777\x00", "7777777\x00", "77777777777\x00", octal(0, 12)
	if h.sum() < 32768 {
		t.Fatalf("the sum %d has not six digits", h.sum())
	}
	both(t, taped(h.summed()), f)
}

func TestPutData(t *testing.T) { // P24.1: data in whole records
	for _, n := range []int{0, 1, 2, 511, 512, 513, 1023, 1024, 1025, 5000} {
		data := strings.Repeat("\xfe", n)
		h := ofA()
		h.size = octal(n, 12)
		f := a()
		f.Data = []byte(data)
		both(t, taped(h.summed(), whole(data)), f)
		both(t, taped(h.summed(), whole(data), ofA().summed(), whole("hi"), h.summed(), whole(data)), f, a(), f)
	}
	zero := api.File{Name: "a", Mode: 420, Time: 1, Data: []byte{0, 0}} // data of zero bytes
	both(t, taped(ofA().summed(), zeros(512)), zero)
}

func TestPutTooLong(t *testing.T) { // P24.1: at most as long as a disk
	f := a()
	f.Data = make([]byte, most-512-1024)
	out, e := tape.Put([]api.File{f})
	if len(out) != most || e != api.OK {
		t.Fatalf("Put: %d bytes, %d", len(out), e)
	}
	get(t, string(out), f)
	no(t, string(out)+"\x00", api.ErrArg)
	f.Data = f.Data[:most-512-1024-511]
	if out, e := tape.Put([]api.File{f}); len(out) != most || e != api.OK {
		t.Errorf("Put: %d bytes, %d", len(out), e)
	}
	refuse(t, api.ErrArg, f, api.File{Name: "b"})
	refuse(t, api.ErrArg, api.File{Name: "b"}, f)
	refuse(t, api.ErrArg, api.File{}, f) // ahead of what is not sound
	f.Data = make([]byte, most-512-1024+1)
	refuse(t, api.ErrArg, f)
	f.Kind = 9
	refuse(t, api.ErrArg, f)
	f.Data = f.Data[:most-512-1024]
	refuse(t, api.ErrTapeField, f)
}

func TestPutMany(t *testing.T) { // P24.1: as many files as there may be
	files := slices.Repeat([]api.File{{Name: "a"}}, (most-1024)/512)
	out, e := tape.Put(files)
	if len(out) != most || e != api.OK {
		t.Fatalf("Put: %d bytes, %d", len(out), e)
	}
	get(t, string(out), files...)
	refuse(t, api.ErrArg, append(files, api.File{Name: "a"})...)
	refuse(t, api.ErrArg, make([]api.File, len(files)+1)...)
	refuse(t, api.ErrTapeField, make([]api.File, len(files))...)
	data := make([]byte, most)
	for i := range files { // the same bytes, over and over
		files[i].Data = data
	}
	refuse(t, api.ErrArg, files...)
}

// edges are files at the edges of what is sound, and whether they are.
func edges() map[bool][]api.File {
	n := func(n int) string { return strings.Repeat("n", n) }
	out := map[bool][]api.File{
		true: {
			{Name: "n"}, {Name: n(100)}, {Name: " "}, {Name: "\xff"}, {Name: "../x"}, {Name: "."}, {Name: "//x"}, {Name: "\n"},
			{Name: "/", Kind: 5}, {Name: "//", Kind: 5}, {Name: n(99) + "/", Kind: 5}, {Name: "n/" + n(99) + "/", Kind: 5},
			{Name: "n", Kind: 2, Link: "n"}, {Name: "n", Kind: 2, Link: n(100)}, {Name: "n", Kind: 2, Link: "/"},
			{Name: "n", User: n(31)}, {Name: "n", Team: n(31)},
		},
		false: {
			{}, {Name: n(101)}, {Name: "n\x00"}, {Name: "\x00"}, {Name: "\x00n"}, {Name: "n/"}, {Name: "/"}, {Name: n(65535)},
			{Name: "n", Kind: 5}, {Kind: 5}, {Name: n(100) + "/", Kind: 5}, {Name: "n/n", Kind: 5}, {Name: "n/", Kind: 5, Link: "n"}, {Name: "n/", Kind: 5, Data: []byte{0}},
			{Name: "n", Kind: 2}, {Name: "n", Kind: 2, Link: n(101)}, {Name: "n", Kind: 2, Link: "n\x00"}, {Name: "n/", Kind: 2, Link: "n"}, {Kind: 2, Link: "n"}, {Name: "n", Kind: 2, Link: "n", Data: []byte{0}},
			{Name: "n", Link: "n"}, {Name: "n", Link: "\x00"},
			{Name: "n", User: n(32)}, {Name: "n", Team: n(32)}, {Name: "n", User: "\x00"}, {Name: "n", Team: "n\x00n"},
		},
	}
	for _, kind := range []int{1, 3, 4, 6, 7, 9, -1, -48, '0', '2', '5', 256, 258, 261, -1 << 63, 1<<63 - 1} {
		out[false] = append(out[false], api.File{Name: "n", Kind: kind}, api.File{Name: "n/", Kind: kind}, api.File{Name: "n", Link: "n", Kind: kind})
	}
	set := []func(*api.File, int){
		func(f *api.File, v int) { f.Mode = v }, func(f *api.File, v int) { f.Owner = v }, func(f *api.File, v int) { f.Group = v }, func(f *api.File, v int) { f.Time = v },
	}
	for i, set := range set {
		greatest := []int{2097151, 2097151, 2097151, 8589934591}[i]
		for _, v := range []int{-1 << 63, -1, 0, 1, 7, 8, 2097151, 2097152, 1<<32 - 1, 1 << 32, 8589934591, 8589934592, 1<<63 - 1} {
			f := api.File{Name: "n"}
			set(&f, v)
			is := 0 <= v && v <= greatest
			out[is] = append(out[is], f)
		}
	}
	return out
}

func TestPutSound(t *testing.T) { // P24.1, and both ways
	for _, f := range edges()[true] {
		out, e := tape.Put([]api.File{f})
		if e != api.OK || len(out) != 1536 {
			t.Fatalf("Put of %s: %d bytes, %d", brief(f), len(out), e)
		}
		get(t, string(out), f)
	}
}

func TestPutUnsound(t *testing.T) { // P24.1
	for _, f := range edges()[false] {
		refuse(t, api.ErrTapeField, f)
		refuse(t, api.ErrTapeField, f, a())
		refuse(t, api.ErrTapeField, a(), f)
		refuse(t, api.ErrTapeField, a(), f, a())
	}
}

// named is the header and the file of a name that is cut so.
func named(prefix, rest string) (string, api.File) {
	h, f := ofA(), a()
	h.prefix, h.name, f.Name = padded(prefix, 155), padded(rest, 100), rest
	if prefix != "" {
		f.Name = prefix + "/" + rest
	}
	if strings.HasSuffix(f.Name, "/") {
		h.kind, h.size, f.Kind, f.Data = "5", octal(0, 12), 5, nil
		return taped(h.summed()), f
	}
	return tapeOf(h), f
}

func TestPutNames(t *testing.T) { // P24.1: names of each length, with slashes at each place
	for n := 1; n <= 260; n++ {
		for at := -1; at < n; at++ {
			for _, other := range []int{-1, 0, 1, at + 1, at + 7, n - 101, n - 102, n - 1} {
				name := []byte(strings.Repeat("n", n))
				for _, slash := range []int{at, other} {
					if 0 <= slash && slash < n {
						name[slash] = '/'
					}
				}
				prefix, rest, ok := plainCut(string(name))
				if !ok {
					refuse(t, api.ErrTapeField, api.File{Name: string(name)})
					refuse(t, api.ErrTapeField, api.File{Name: string(name), Kind: 5})
					continue
				}
				data, f := named(prefix, rest)
				if f.Name != string(name) {
					t.Fatalf("%q is cut to %q and %q", name, prefix, rest)
				}
				both(t, data, f)
			}
		}
	}
}
