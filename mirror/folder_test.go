package mirror_test

import (
	"math/rand"
	"slices"
	"testing"
)

func TestUnder(t *testing.T) { // P25.2
	names := []string{"d/z", "d", "d/", "dx", "d/a", "x/d/a", "d//", "d/z", "", "/", "d/é/", "D/a", "d\\a", "/d/a", "d/a/b/c"}
	for _, folder := range []string{"d", "d/"} {
		under(t, names, folder, "d/z", "d/a", "d//", "d/z", "d/é/", "d/a/b/c")
	}
	under(t, names, "d/a", "d/a/b/c")
	under(t, names, "d/a/", "d/a/b/c")
	under(t, names, "d/a/b/c")
	under(t, names, "e")
	under(t, names, "x", "x/d/a")
	under(t, names, "x/d", "x/d/a")
	under(t, nil, "d")
	under(t, nil, "")
}

func TestUnderAll(t *testing.T) { // P25.2: F is empty
	names := []string{"b", "", "/", "a/", "//", "b", "/a", ""}
	under(t, names, "", "b", "/", "a/", "//", "b", "/a")
	under(t, names, "/", "b", "/", "a/", "//", "b", "/a")
}

func TestOneSlash(t *testing.T) { // P25.2, P25.3: just one slash is left out
	names := []string{"d/a", "d//a", "d///a", "d//", "/a", "//a", "///a", "//", "/a/b", "a"}
	under(t, names, "d//", "d//a", "d///a")
	under(t, names, "d///", "d///a")
	under(t, names, "//", "//a", "///a")
	under(t, names, "///", "///a")
	children(t, names, "d//", "d///", "d//a")
	children(t, names, "//", "///", "//a")
	children(t, names, "/", "/", "a", "d/")
	children(t, names, "d", "d//", "d/a")
}

func TestChildren(t *testing.T) { // P25.3
	names := []string{"d/z", "d", "d/", "dx", "d/a", "d/a/", "d/a/b", "d/a/c/d", "d/z", "d/é/x", "d/é/y", "d/B", "d/a b", "d/a.b/c", "x/d/a", ""}
	for _, folder := range []string{"d", "d/"} {
		children(t, names, folder, "d/B", "d/a", "d/a b", "d/a.b/", "d/a/", "d/z", "d/é/")
	}
	children(t, names, "d/a", "d/a/b", "d/a/c/")
	children(t, names, "d/a/c", "d/a/c/d")
	children(t, names, "d/z")
	children(t, names, "", "d", "d/", "dx", "x/")
	children(t, names, "/", "d", "d/", "dx", "x/")
	children(t, []string{"", ""}, "")
	children(t, nil, "")
	children(t, nil, "d")
	children(t, []string{"\xff", "é", "z", "\x00/a"}, "", "\x00/", "z", "é", "\xff")
}

func TestFolderModel(t *testing.T) { // P25.2, P25.3
	from := rand.New(rand.NewSource(2505))
	letters := []string{"a", "/", "b", "a/", "é", "\xff", ""}
	draw := func() string {
		text := ""
		for range from.Intn(6) {
			text += letters[from.Intn(len(letters))]
		}
		return text
	}
	in := 0
	for range 50000 {
		var names []string
		for range from.Intn(12) {
			names = append(names, draw())
		}
		folder := draw()
		if len(names) > 0 && from.Intn(2) == 0 {
			name := names[0]
			folder = name[:from.Intn(len(name)+1)]
		}
		was := slices.Clone(names)
		want := plainUnder(names, folder)
		in += len(want)
		under(t, names, folder, want...)
		children(t, names, folder, plainChildren(names, folder)...)
		if !slices.Equal(names, was) {
			t.Fatalf("the names have changed: %q", names)
		}
	}
	if in < 50000 {
		t.Errorf("%d names were in their folder", in)
	}
}

func TestManyNames(t *testing.T) { // P25.2, P25.3: a folder of very many
	var names, want []string
	for i := range 200000 {
		name := "d/" + string(rune('a'+i%26)) + many("x", i%7) + "/" + many("y", i%50)
		names = append(names, name)
	}
	for c := 'a'; c <= 'z'; c++ {
		for n := range 7 {
			want = append(want, "d/"+string(c)+many("x", n)+"/")
		}
	}
	slices.Sort(want)
	children(t, names, "d", want...)
	under(t, names, "d", names...)
}
