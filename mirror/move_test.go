package mirror_test

import (
	"fmt"
	"slices"
	"testing"

	"valise/api"
	"valise/mirror"
)

func TestMove(t *testing.T) { // P25.6
	all := []string{"d", "d/", "d/a", "d/e/", "d/e/f", "dx/a", "d.", "e", "x/d/a", "D/a"}
	for _, x := range []struct {
		from, to string
		count    int
		names    []string
	}{
		{"d", "n", 4, []string{"D/a", "d", "d.", "dx/a", "e", "n/", "n/a", "n/e/", "n/e/f", "x/d/a"}},
		{"d/", "n/", 4, []string{"D/a", "d", "d.", "dx/a", "e", "n/", "n/a", "n/e/", "n/e/f", "x/d/a"}},
		{"d/e", "d", 2, nil}, // d/e/ becomes d/, which is taken
		{"d/e", "d/n", 2, []string{"D/a", "d", "d.", "d/", "d/a", "d/n/", "d/n/f", "dx/a", "e", "x/d/a"}},
		{"d/e/", "e", 2, []string{"D/a", "d", "d.", "d/", "d/a", "dx/a", "e", "e/", "e/f", "x/d/a"}},
		{"x", "y/z/é", 1, []string{"D/a", "d", "d.", "d/", "d/a", "d/e/", "d/e/f", "dx/a", "e", "y/z/é/d/a"}},
		{"x/d", "x", 1, []string{"D/a", "d", "d.", "d/", "d/a", "d/e/", "d/e/f", "dx/a", "e", "x/a"}},
		{"dx", "d/x", 1, []string{"D/a", "d", "d.", "d/", "d/a", "d/e/", "d/e/f", "d/x/a", "e", "x/d/a"}},
		{"dx", "dxx", 1, []string{"D/a", "d", "d.", "d/", "d/a", "d/e/", "d/e/f", "dxx/a", "e", "x/d/a"}},
	} {
		_, v := over(t, holding(t, all...), 1<<14)
		before := entries(t, v)
		if x.names == nil {
			refuses(t, "move", "d/e/", api.ErrTaken)(mirror.Move(v, x.from, x.to))
			names(t, v, slices.Sorted(slices.Values(all))...)
			continue
		}
		counts(t, x.count)(mirror.Move(v, x.from, x.to))
		names(t, v, x.names...)
		behind := entries(t, v)
		if len(behind) != len(before) {
			t.Fatalf("%d entries, want %d", len(behind), len(before))
		}
		for i, text := range behind {
			name := text[:len(text)-len(", <nil>")] // each entry holds the name that it had
			i.Name = name
			if before[i] != text {
				t.Errorf("%q has changed: %v", name, i)
			}
		}
	}
}

func TestMoveRefused(t *testing.T) { // P25.6: the errors, their order, and that nothing is done
	file := holding(t, "d/", "d/a", "d/e/f", "file", "n/a", "only/")
	d, v := over(t, file, 1<<14)
	long := many("n", 65535)
	for _, x := range []struct {
		from, to, name string
		reason         api.Errno
	}{
		{"", "n", "", api.ErrName}, {"/", "n", "/", api.ErrName}, {"//", "n", "//", api.ErrName}, {"d", "", "d", api.ErrName}, {"d/", "/", "d/", api.ErrName}, {"d", "//", "d", api.ErrName},
		{"../d", "n", "../d", api.ErrName}, {"d", "../n", "d", api.ErrName}, {"d//e", "n", "d//e", api.ErrName}, {"d", "\xff", "d", api.ErrName}, {"d", "a\\b", "d", api.ErrName}, {"d", long + "n", "d", api.ErrName}, {"/d", "n", "/d", api.ErrName}, {"d", ".", "d", api.ErrName}, {"no", "", "no", api.ErrName}, {"d", "d//", "d/", api.ErrName},
		{"no", "x", "no", api.ErrAbsent}, {"no/", "no", "no/", api.ErrAbsent}, {"no", "no/x", "no", api.ErrAbsent}, {"file", "x", "file", api.ErrAbsent}, {"fil", "x", "fil", api.ErrAbsent}, {"d/a", "x", "d/a", api.ErrAbsent}, {"d//", "x", "d//", api.ErrAbsent}, {long, "x", long, api.ErrAbsent}, {"D", "x", "D", api.ErrAbsent},
		{"d", "d", "d", api.ErrTaken}, {"d/", "d", "d/", api.ErrTaken}, {"d", "d/", "d", api.ErrTaken}, {"d/", "d/", "d/", api.ErrTaken}, {"d", "d/x", "d", api.ErrTaken}, {"d", "d/e/", "d", api.ErrTaken}, {"d/", "d/a/b/c", "d/", api.ErrTaken}, {"only", "only/x", "only", api.ErrTaken},
		{"d", "n", "d/a", api.ErrTaken}, {"n", "d", "n/a", api.ErrTaken}, {"d", "only", "d/", api.ErrTaken},
		{"d", long, "d/", api.ErrName}, {"d", long[3:], "d/e/f", api.ErrName}, {"d", "x//", "d/", api.ErrName},
		{"d", many("n", 9000), "", api.ErrFull},
	} {
		refuses(t, "move", x.name, x.reason)(mirror.Move(v, x.from, x.to))
		still(t, d, file, 0)
	}
	names(t, v, "d/", "d/a", "d/e/f", "file", "n/a", "only/")
}

func TestMoveTaken(t *testing.T) { // P25.6: even if the other entry would have got another name in a later step
	_, v := over(t, holding(t, "d/a", "d/d/a"), 1<<14)
	counts(t, 1)(mirror.Move(v, "d/d", "x"))
	_, v = over(t, holding(t, "d/a", "d/d/a"), 1<<14)
	refuses(t, "move", "d/d/a", api.ErrTaken)(mirror.Move(v, "d/d", "d"))
	_, v = over(t, holding(t, "d/d/a", "d/d/d/a"), 1<<14) // d/d/a makes room ahead of d/d/d/a
	counts(t, 2)(mirror.Move(v, "d/d", "d"))
	names(t, v, "d/a", "d/d/a")
	_, v = over(t, holding(t, "d/d/d/a", "d/d/e"), 1<<14)
	counts(t, 2)(mirror.Move(v, "d/d", "d"))
	names(t, v, "d/d/a", "d/e")
	_, v = over(t, holding(t, "d/d/d/a", "d/d/d/b", "d/d/e", "d/d/a"), 1<<14)
	counts(t, 4)(mirror.Move(v, "d/d", "d"))
	_, v = over(t, holding(t, "d/z/a/x", "d/z/z/a/x"), 1<<14)
	counts(t, 2)(mirror.Move(v, "d/z", "d"))
	names(t, v, "d/a/x", "d/z/a/x")
	_, v = over(t, holding(t, "d/b/b/x", "d/b/x"), 1<<14) // here the later step would make room
	refuses(t, "move", "d/b/b/x", api.ErrTaken)(mirror.Move(v, "d/b", "d"))
	names(t, v, "d/b/b/x", "d/b/x")
}

func TestMoveFolderEntry(t *testing.T) { // P25.6: the name F and a slash alone
	_, v := over(t, holding(t, "d/", "b"), 1<<14)
	counts(t, 1)(mirror.Move(v, "d", "c/e"))
	names(t, v, "b", "c/e/")
	counts(t, 1)(mirror.Move(v, "c", "b"))
	names(t, v, "b", "b/e/")
}

func TestMoveThere(t *testing.T) { // P25.6: a folder that is there is no hindrance
	_, v := over(t, holding(t, "a/x", "a/y/z", "b/w", "b/y/q", "b/"), 1<<14)
	counts(t, 2)(mirror.Move(v, "a", "b"))
	names(t, v, "b/", "b/w", "b/x", "b/y/q", "b/y/z")
}

func TestMoveLongNames(t *testing.T) { // P25.6: more new names than any archive has room for
	var all []string
	for i := range 300 {
		all = append(all, fmt.Sprintf("d/%05d", i))
	}
	file := holding(t, all...)
	d, v := over(t, file, 1<<24)
	refuses(t, "move", "d/00086", api.ErrFull)(mirror.Move(v, "d", many("n", 65000)))
	still(t, d, file, 0)
}
