package store_test

import (
	"strings"
	"sync"
	"testing"

	"valise/api"
	"valise/disk"
	"valise/store"
)

// spoil writes over a list and over the room behind its end.
func spoil[T any](list []T, v T) {
	list = list[:cap(list)]
	for i := range list {
		list[i] = v
	}
}

// roomy is a text as a list with room behind its end.
func roomy(s string) []byte { return append([]byte(s), "the room behind"...)[:len(s)] }

func TestNilIsEmpty(t *testing.T) { // P0.2
	for _, image := range [][]byte{nil, {}, []byte("room")[:0]} {
		for _, list := range [][]api.Write{nil, {}, make([]api.Write, 0, 3)} {
			d, _ := disk.New(image, 4096)
			s := opened(t, d)
			tells(t, s, d, api.Verdict{}, "")
			applies(t, s, d, api.Plan{Writes: list}, "")
			for _, data := range [][]byte{nil, {}, []byte("room")[:0]} {
				rejects(t, s, d, api.Plan{Writes: append(list, api.Write{Data: data})}, api.ErrPlan)
			}
			applies(t, s, d, becomes(none), none)
			applies(t, s, d, api.Plan{Size: 22, Writes: list}, none)
			applies(t, s, d, api.Plan{Writes: list}, "")
		}
	}
}

func TestMemoryAnswers(t *testing.T) { // P0.3
	content := gapped(t)
	d := holds(t, content, 1<<14)
	s := opened(t, d)
	want := parsed(t, content)
	for range 2 {
		a, b := s.Archive(), s.Archive()
		image, _ := s.Image()
		again, _ := s.Image()
		text, _ := s.Bytes("b")
		twice, _ := s.Bytes("b")
		spoil(b.Entries, api.Entry{From: 7})
		spoil(again, 'q')
		spoil(twice, 'q')
		if !sameArchive(a, want) || string(image) != content || string(text) != strings.Repeat("b", 700) {
			t.Errorf("two answers share memory")
		}
		tells(t, s, d, api.Verdict{Size: len(content)}, content)
		spoil(a.Entries, api.Entry{})
		spoil(image, 'q')
		spoil(text, 'q')
		tells(t, s, d, api.Verdict{Size: len(content)}, content)
	}
	old := s.Archive()
	applies(t, s, d, becomes(none), none) // what was handed out stays what it was
	if !sameArchive(old, want) {
		t.Errorf("Apply changes an answer that was given ahead of it")
	}
}

func TestMemoryPlan(t *testing.T) { // P0.3
	old, next := gapped(t), rendered(t, "new", "c", strings.Repeat("c", 900), "d", "")
	half := len(next) / 2
	first, second := roomy(next[:half]), roomy(next[half:])
	list := append([]api.Write{{At: 0, Data: first}, {At: half, Data: second}}, api.Write{At: 77})[:2]
	d := holds(t, old, 1<<14)
	s := opened(t, d)
	applies(t, s, d, api.Plan{Size: len(next), Writes: list}, next)
	if string(first[:half+15]) != next[:half]+"the room behind" || string(second[:len(next)-half+15]) != next[half:]+"the room behind" {
		t.Errorf("Apply changes the bytes of a write")
	}
	if list[0].At != 0 || list[1].At != half || list[:3][2].At != 77 || len(list[0].Data) != half {
		t.Errorf("Apply changes the list of writes")
	}
	spoil(first, 'q')
	spoil(second, 'q')
	spoil(list, api.Write{At: 5})
	tells(t, s, d, api.Verdict{Size: len(old)}, next)
	lost, _ := d.Crash(api.Choice{})
	if string(lost.Image()) != next {
		t.Errorf("a plan's memory is kept")
	}
}

func TestOtherStores(t *testing.T) { // P0.7: a store knows nothing of others
	d, other := holds(t, gapped(t), 1<<14), holds(t, none, 1<<14)
	s, x := opened(t, d), opened(t, other)
	applies(t, x, other, becomes(rendered(t, "x", "x", "x")), rendered(t, "x", "x", "x"))
	tells(t, s, d, api.Verdict{Size: len(gapped(t))}, gapped(t))
	other.Crash(api.Choice{})
	applies(t, s, d, becomes(none), none)
	silent(t, x, other, api.Verdict{Size: 22}, rendered(t, "x", "x", "x"))
}

// lived lets a store go through its whole life, and tells what is wrong with it.
func lived(content, next string) string {
	d, _ := disk.New([]byte(content), 1<<14)
	s, e := store.Open(d)
	if e != api.OK {
		return "Open"
	}
	for _, p := range []api.Plan{becomes(next), becomes(content), {Size: -1}, becomes(next)} {
		s.Apply(p)
	}
	if b, e := s.Image(); string(b) != next || e != api.OK {
		return "Image"
	}
	d.Fuse(9)
	if e := s.Apply(becomes(content)); e != api.ErrDiskPower {
		return "Apply"
	}
	found, _ := d.Crash(api.Choice{})
	s, e = store.Open(found)
	if e != api.OK || s.Found() != (api.Verdict{State: api.StateArmed, Seq: 4, Size: len(next)}) {
		return "Found"
	}
	if b, e := s.Image(); string(b) != next || e != api.OK {
		return "Image behind a crash"
	}
	return ""
}

func TestSideBySide(t *testing.T) { // P0.7: stores in many goroutines
	content, next := gapped(t), rendered(t, "new", "c", strings.Repeat("c", 900), "d", "")
	var all sync.WaitGroup
	for range 8 {
		all.Go(func() {
			for range 20 {
				if wrong := lived(content, next); wrong != "" {
					t.Errorf("%s is wrong", wrong)
				}
			}
		})
	}
	all.Wait()
}

// TestOneBehindAnother lets many goroutines call one store: none of them finds it half changed.
func TestOneBehindAnother(t *testing.T) { // 'Ways'
	contents := []string{rendered(t, "", "a", strings.Repeat("1", 9)), rendered(t, "", "a", strings.Repeat("2", 3000)), none}
	places := map[string]int{}
	for i, content := range contents {
		places[content] = i
	}
	d := holds(t, contents[0], 1<<16)
	s := opened(t, d)
	var all sync.WaitGroup
	for i := range 8 {
		all.Go(func() {
			for n := range 150 {
				if e := s.Apply(becomes(contents[(i+n)%3])); e != api.OK {
					t.Errorf("Apply = %d", e)
				}
				b, e := s.Image()
				if _, there := places[string(b)]; !there || e != api.OK {
					t.Errorf("Image = %d bytes, %d", len(b), e)
				}
				if a := s.Archive(); a.Size != len(contents[0]) && a.Size != len(contents[1]) && a.Size != 22 {
					t.Errorf("Archive of %d bytes", a.Size)
				}
				b, e = s.Bytes("a")
				if e != api.ErrAbsent && strings.Trim(string(b), "1") != "" && strings.Trim(string(b), "2") != "" {
					t.Errorf("Bytes = %d bytes, %d", len(b), e)
				}
				if s.Found() != (api.Verdict{Size: len(contents[0])}) || s.Capacity() != 1<<16 {
					t.Errorf("Found or Capacity is another one")
				}
			}
		})
	}
	all.Wait()
}
