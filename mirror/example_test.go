package mirror_test

import (
	"slices"
	"testing"

	"valise/api"
	"valise/mirror"
)

func TestExampleMatch(t *testing.T) { // example 1
	is(t, "*.txt", "a.txt", true)
	is(t, "*.txt", "d/a.txt", false)
	is(t, "**.txt", "d/a.txt", true)
	is(t, "d/**", "d/", true)
	is(t, "d/**/x", "d/x", false)
	is(t, "d/**/x", "d/e/f/x", true)
	is(t, "?", "\xc3\xa9", true)
	is(t, "??", "\xc3\xa9", false)
	is(t, "?", "/", false)
	is(t, "[!a]", "/", false)
	is(t, "[a-c-]", "-", true)
	no(t, "[]]", "]", api.ErrPattern)
	is(t, "[\\]]", "]", true)
	no(t, "[c-a]", "b", api.ErrPattern)
	no(t, "a\\", "a", api.ErrPattern)
	no(t, "[a", "a", api.ErrPattern)
	no(t, "[!]", "a", api.ErrPattern)
	is(t, "", "", true)
	is(t, "[!!]", "!", false)
	is(t, "]", "]", true)
	is(t, "[--/]", ".", true)
}

func TestExampleFolders(t *testing.T) { // example 2
	names := []string{"a", "d/", "d/x", "d/e/y", "dx"}
	under(t, names, "d", "d/x", "d/e/y")
	under(t, names, "d/", "d/x", "d/e/y")
	under(t, names, "", names...)
	children(t, names, "d", "d/e/", "d/x")
	children(t, names, "", "a", "d/", "dx")
}

func TestExampleMirror(t *testing.T) { // example 3
	d, v := over(t, "", 1<<14)
	mirrors(t, v, api.Done{Added: 2}, wanted("a", "1"), wanted("b", "2"))
	second := []api.Want{wanted("b", "2"), wanted("c", "3"), wanted("b", "22")}
	mirrors(t, v, api.Done{Added: 1, Replaced: 1, Deleted: 1}, second...)
	image, calls := string(d.Image()), d.Calls()
	mirrors(t, v, api.Done{Kept: 2}, second...)
	still(t, d, image, calls)
	mirrors(t, v, api.Done{Deleted: 2})
	names(t, v)
}

func TestExampleMove(t *testing.T) { // example 4
	d, v := over(t, holding(t, "a/x", "a/y", "b"), 1<<14)
	counts(t, 2)(mirror.Move(v, "a", "c/d"))
	names(t, v, "b", "c/d/x", "c/d/y")
	image, calls := string(d.Image()), d.Calls()
	refuses(t, "move", "c", api.ErrTaken)(mirror.Move(v, "c", "c/d"))
	refuses(t, "move", "q", api.ErrAbsent)(mirror.Move(v, "q", "a"))
	refuses(t, "move", "", api.ErrName)(mirror.Move(v, "", "a"))
	still(t, d, image, calls)
	counts(t, 2)(mirror.Move(v, "c/d/", "b"))
	names(t, v, "b", "b/x", "b/y")
}

func TestExamplePrune(t *testing.T) { // example 5
	_, v := over(t, holding(t, "b", "b/x", "b/y"), 1<<14)
	counts(t, 1)(mirror.Prune(v, "**x"))
	names(t, v, "b", "b/y")
	refuses(t, "prune", "[", 250)(mirror.Prune(v, "["))
}

func TestExampleReadme(t *testing.T) { // what README.md says
	_, v := over(t, "", 1<<20)
	how := api.How{Method: api.MethodDeflate, Level: 6, Stamp: api.Stamp{Year: 2026, Month: 11, Day: 19}}
	a, b := api.Want{Name: "d/a.txt", Data: []byte("hello"), How: how}, api.Want{Name: "d/e/b.txt", Data: []byte("world"), How: how}
	mirrors(t, v, api.Done{Added: 2}, a, b)
	a.Data = []byte("hello again")
	mirrors(t, v, api.Done{Replaced: 1, Kept: 1}, a, b)
	mirrors(t, v, api.Done{Deleted: 1, Kept: 1}, b)
	steps, done := mirror.Steps(nil, []api.Want{a, b})
	if len(steps) != 2 || done != (api.Done{Added: 2}) {
		t.Errorf("%v, %v", steps, done)
	}
	counts(t, 1)(mirror.Move(v, "d/e", "old"))
	refuses(t, "move", "d", api.ErrAbsent)(mirror.Move(v, "d", "old/d"))
	counts(t, 1)(mirror.Prune(v, "old/*.txt"))
	names(t, v)

	all := []string{"d/a.txt", "d/e/b.txt", "f"}
	under(t, all, "d", "d/a.txt", "d/e/b.txt")
	children(t, all, "", "d/", "f")
	children(t, all, "d", "d/a.txt", "d/e/")
	is(t, "d/*.txt", "d/a.txt", true)
	is(t, "d/*.txt", "d/e/b.txt", false)
	is(t, "d/**.txt", "d/e/b.txt", true)
	is(t, "[!a-c\\]]?", "é-", true)
	no(t, "[c-a]", "b", api.ErrPattern)
}

// under asks Under for these names.
func under(t *testing.T, names []string, folder string, want ...string) {
	t.Helper()
	if got := mirror.Under(names, folder); !slices.Equal(got, want) {
		t.Errorf("Under(%q, %q) = %q, want %q", names, folder, got, want)
	}
}

// children asks Children for these names.
func children(t *testing.T, names []string, folder string, want ...string) {
	t.Helper()
	if got := mirror.Children(names, folder); !slices.Equal(got, want) {
		t.Errorf("Children(%q, %q) = %q, want %q", names, folder, got, want)
	}
}
