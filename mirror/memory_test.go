package mirror_test

import (
	"slices"
	"sync"
	"testing"

	"valise/api"
	"valise/mirror"
	"valise/valise"
)

// spoil writes over a list and over the room behind its end.
func spoil(list []byte) {
	list = list[:cap(list)]
	for i := range list {
		list[i] = 'q'
	}
}

// roomy is a list with room behind its end.
func roomy(data string) []byte { return []byte(data + "the room behind")[:len(data)] }

// kept asks that a list that was made by roomy is as it was.
func kept(t *testing.T, list []byte, was string) {
	t.Helper()
	if whole := list[:len(was)+15]; string(list) != was || string(whole) != was+"the room behind" {
		t.Errorf("a list that was handed in has changed: %q", whole)
	}
}

func TestNilIsEmpty(t *testing.T) { // P0.2
	for _, none := range [][]byte{nil, {}, []byte("abc")[:0]} {
		w := api.Want{Name: "a", Data: none, How: stored}
		steps(t, nil, []api.Want{w}, api.Done{Added: 1}, put(w))
		steps(t, []api.Info{info(w)}, []api.Want{w}, api.Done{Kept: 1})
		_, v := over(t, "", 4096)
		mirrors(t, v, api.Done{Added: 1}, w)
		mirrors(t, v, api.Done{Kept: 1}, api.Want{Name: "a", How: stored})
		mirrors(t, v, api.Done{Kept: 1}, w)
	}
	steps(t, []api.Info{}, []api.Want{}, api.Done{})
	under(t, []string{}, "")
	children(t, []string{}, "d")
}

func TestMemoryOfNames(t *testing.T) { // P0.3
	whole := []string{"d/b", "d/a/x", "d", "e", "d/a/y", "behind", "it"}
	all := slices.Clone(whole)
	for _, folder := range []string{"d", "", "no"} {
		for _, call := range []func([]string, string) []string{mirror.Under, mirror.Children} {
			first, second := call(all[:5], folder), call(all[:5], folder)
			want := slices.Clone(first)
			second = second[:cap(second)]
			for i := range second {
				second[i] = "spoilt"
			}
			if !slices.Equal(all, whole) || !slices.Equal(first, want) {
				t.Errorf("of %q: %q, %q", folder, all, first)
			}
			clear(all)
			if !slices.Equal(first, want) {
				t.Errorf("of %q: %q, want %q", folder, first, want)
			}
			copy(all, whole)
		}
	}
}

func TestMemoryOfSteps(t *testing.T) { // P0.3: nor do two steps share any
	data := roomy("some data")
	a, b := api.Want{Name: "a", Data: data, How: stored}, api.Want{Name: "b", Data: data, How: stored}
	want := []api.Want{a, b, wanted("behind", "")}[:2]
	have := []api.Info{info(wanted("c", "")), info(wanted("d", "")), {Name: "behind"}}[:2]
	first, _ := mirror.Steps(have, want)
	second, _ := mirror.Steps(have, want)
	kept(t, data, "some data")
	if want[:3][2].Name != "behind" || have[:3][2].Name != "behind" || want[0].Name != "a" || have[0].Name != "c" {
		t.Errorf("a list that was handed in has changed")
	}
	spoil(data)
	clear(want)
	clear(have)
	spoil(first[2].Data)
	if !alike(first[3:], []api.Step{put(wanted("b", "some data"))}) {
		t.Errorf("two steps share memory, or one with a want: %v", first[3])
	}
	clear(first[:cap(first)])
	if !alike(second, []api.Step{remove("c"), remove("d"), put(wanted("a", "some data")), put(wanted("b", "some data"))}) {
		t.Errorf("two answers share memory, or one with a want: %v", second)
	}
}

func TestMemoryOfMirror(t *testing.T) { // P0.3
	data := roomy("some data")
	want := []api.Want{{Name: "a", Data: data, How: stored}, {Name: "b", Data: data, How: packed}, wanted("behind", "")}
	d, v := over(t, "", 1<<14)
	mirrors(t, v, api.Done{Added: 2}, want[:2]...)
	mirrors(t, v, api.Done{Kept: 2}, want[:2]...)
	kept(t, data, "some data")
	if want[2].Name != "behind" || want[0].Name != "a" || want[1].How != packed {
		t.Errorf("the wants have changed: %v", want)
	}
	image := string(d.Image())
	spoil(data)
	clear(want)
	still(t, d, image, d.Calls())
	for _, name := range []string{"a", "b"} {
		if text, err := v.Read(name); string(text) != "some data" || err != nil {
			t.Errorf("%q: %q, %v", name, text, err)
		}
	}
}

func TestSideBySide(t *testing.T) { // P0.7
	names := []string{"d/b", "d/a/x", "d", "e"}
	want := []api.Want{wanted("d/a", "1"), wanted("d/b", "2"), wanted("e", "3")}
	same := make([]*valise.Valise, 8)
	for i := range same {
		_, same[i] = over(t, "", 1<<14)
	}
	var workers sync.WaitGroup
	for _, v := range same {
		workers.Go(func() {
			for range 50 {
				is(t, "**/[a-c]*", "d/b", true)
				under(t, names, "d", "d/b", "d/a/x")
				children(t, names, "d", "d/a/", "d/b")
				steps(t, nil, want[:1], api.Done{Added: 1}, put(want[0]))
				if done, err := mirror.Mirror(v, want...); done.Added != 3 || err != nil {
					t.Errorf("Mirror: %v, %v", done, err)
				}
				if n, err := mirror.Move(v, "d", "f"); n != 2 || err != nil {
					t.Errorf("Move: %d, %v", n, err)
				}
				if n, err := mirror.Prune(v, "**"); n != 3 || err != nil {
					t.Errorf("Prune: %d, %v", n, err)
				}
			}
		})
	}
	workers.Wait()
}
