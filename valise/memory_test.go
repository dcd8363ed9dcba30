package valise_test

import (
	"slices"
	"strings"
	"sync"
	"testing"

	"valise/api"
	"valise/disk"
	"valise/valise"
)

// spoil writes over a list and over the room behind its end.
func spoil[T any](list []T, v T) {
	list = list[:cap(list)]
	for i := range list {
		list[i] = v
	}
}

// roomy is a text as a list with room behind its end.
func roomy(s string) []byte { return append([]byte(s), "the room behind"...)[:len(s)] }

func TestNilIsEmpty(t *testing.T) { // P0.2
	for _, image := range [][]byte{nil, {}, []byte("room")[:0]} {
		for _, data := range [][]byte{nil, {}, []byte("room")[:0]} {
			for _, how := range []api.How{stored, packed} {
				d, _ := disk.New(image, 4096)
				v := opened(t, d)
				goes(t, v.Batch([]api.Step{}...))
				goes(t, v.Add("a", data, how))
				has(t, d, v, "a", "")
				goes(t, v.Batch(api.Step{Name: "b", Data: data, How: how}))
				has(t, d, v, "a", "", "b", "")
			}
		}
	}
}

func TestMemoryAnswers(t *testing.T) { // P0.3
	bad := item("bad", "text")
	bad.Sum++
	text := strings.Repeat("some text", 50)
	items := []api.Item{item("a", text), packedItem("b", deflated(t, text, 6), len(text), item("", text).Sum), bad}
	d, v := over(t, laid(t, items...), 1<<14)
	want, _ := mapOf(t, d, v)
	image := string(d.Image())
	for range 2 {
		list, _ := v.List()
		again, _ := v.List()
		spoil(again, api.Info{Name: "spoilt"})
		damaged, _ := v.Verify()
		twice, _ := v.Verify()
		spoil(twice, "spoilt")
		for _, name := range []string{"a", "b"} {
			b, _ := v.Read(name)
			c, _ := v.Read(name)
			spoil(c, 'q')
			if string(b) != text {
				t.Errorf("Read: two answers share memory")
			}
			spoil(b, 'q')
		}
		if len(list) != 3 || list[0] != want["a"].Info || !slices.Equal(damaged, []string{"bad"}) {
			t.Errorf("two answers share memory")
		}
		spoil(list, api.Info{})
		spoil(damaged, "")
		if got, _ := mapOf(t, d, v); got["a"] != want["a"] || got["b"] != want["b"] || got["bad"] != want["bad"] || string(d.Image()) != image {
			t.Errorf("an answer shares memory with the valise")
		}
	}
}

func TestMemoryArguments(t *testing.T) { // P0.3
	for _, how := range []api.How{stored, packed, {Method: 8, Stamp: epoch}} {
		text := "the text that is added, the text that is added"
		data, other := roomy(text), roomy(text)
		d, v := over(t, "", 1<<14)
		goes(t, v.Add("a", data, how))
		steps := append([]api.Step{{Name: "b", Data: other, How: how}, {Kind: api.StepRename, Name: "b", To: "c"}}, api.Step{Name: "behind"})[:2]
		goes(t, v.Batch(steps...))
		if string(data[:len(text)+15]) != text+"the room behind" || string(other[:len(text)+15]) != text+"the room behind" {
			t.Errorf("the bytes that were handed in are changed")
		}
		if steps[0].Name != "b" || steps[0].How != how || steps[1].To != "c" || steps[:3][2].Name != "behind" {
			t.Errorf("the steps that were handed in are changed")
		}
		spoil(data, 'q')
		spoil(other, 'q')
		spoil(steps, api.Step{Kind: 7})
		has(t, d, v, "a", text, "c", text)
		lost, _ := d.Crash(api.Choice{})
		has(t, lost, opened(t, lost), "a", text, "c", text)
	}
}

func TestOthers(t *testing.T) { // P0.7: a valise knows nothing of others
	d, v := over(t, gapped(t), 1<<14)
	other, w := over(t, "", 1<<14)
	puts(t, w, "a", "another")
	has(t, d, v, "a", "hi", "b", strings.Repeat("b", 700))
	other.Crash(api.Choice{})
	puts(t, v, "a", "new")
	has(t, d, v, "a", "new", "b", strings.Repeat("b", 700))
	silent(t, w, api.ErrDiskPower)
	goes(t, w.Close())
	goes(t, v.Delete("b"))
	has(t, d, v, "a", "new")
}

// lived lets a valise go through a whole life, and tells the file in the end.
func lived() string {
	d, _ := disk.New(nil, 1<<16)
	v, err := valise.Open(d, api.Options{})
	if err != nil {
		return "Open"
	}
	for i, name := range []string{"b", "a", "dir/c", "d", "e", "f", "g", "h", "i", "j", "k"} {
		how := api.How{Method: i % 2 * 8, Level: i % 10, Stamp: epoch}
		if v.Add(name, []byte(strings.Repeat(name+" text ", 10*i)), how) != nil {
			return "Add"
		}
	}
	v.Batch(gone("d"), moved("a", "z"), put("new", "text"))
	damaged, err := v.Verify()
	if err != nil || len(damaged) != 0 {
		return "Verify"
	}
	return strings.Join(names(v), " ") + "\n" + string(d.Image())
}

func TestSideBySide(t *testing.T) { // P0.7: many valises in many goroutines
	want := lived()
	if !strings.HasPrefix(want, "b dir/c e f g h i j k new z\n") {
		t.Fatalf("%s", short(want))
	}
	var all sync.WaitGroup
	for range 8 {
		all.Go(func() {
			for range 10 {
				if lived() != want {
					t.Errorf("another file")
				}
			}
		})
	}
	all.Wait()
}
