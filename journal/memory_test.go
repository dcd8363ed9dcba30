package journal_test

import (
	"sync"
	"testing"

	"valise/api"
	"valise/journal"
)

func TestNilIsEmpty(t *testing.T) { // P0.2
	for _, list := range [][]byte{nil, {}, []byte("room")[:0]} {
		if v, l := journal.Look(list); v != (api.Verdict{}) || len(l) != 0 || !journal.Quiet(list) {
			t.Errorf("Look of nothing = %v, %d bytes", v, len(l))
		}
		if s, e := journal.DecodeSeal(list); s != (api.Seal{}) || e != api.ErrSealShape {
			t.Errorf("DecodeSeal of nothing = %v, %d", s, e)
		}
		for _, writes := range [][]api.Write{nil, {}, make([]api.Write, 0, 4)} {
			if l, e := journal.Apply(list, 2, writes); string(l) != zeros(2) || e != api.OK {
				t.Errorf("Apply of nothing = %q, %d", l, e)
			}
			needs(t, 0, 2, writes, 1024, api.OK)
			d := holds(t, "", 1024)
			if e := journal.Update(d, 0, 2, writes); e != api.OK || string(d.Image()) != zeros(2) {
				t.Errorf("Update by no writes = %d", e)
			}
		}
		wrong := []api.Write{{At: 0, Data: list}}
		applies(t, "a", 1, wrong, "", api.ErrSealWrite)
		needs(t, 1, 1, wrong, 0, api.ErrSealWrite)
	}
}

// spoil writes over a list and over the room behind its end.
func spoil(list []byte) {
	list = list[:cap(list)]
	for i := range list {
		list[i] = 'q'
	}
}

// roomy is a text as a list with room behind its end.
func roomy(s string) []byte { return append([]byte(s), "the room behind"...)[:len(s)] }

func TestMemoryLook(t *testing.T) { // P0.3: in each state
	for _, image := range []string{
		hello,
		hello + zeros(1024),
		laid(hello, api.Seal{State: 2, Old: 12, New: 12}, ""),
		laid("jello, world", api.Seal{State: 3, Old: 12, New: 12, Count: 1}, pair(0, 1)+"h"),
		laid(hello, api.Seal{State: 4, Old: 5, New: 12}, ""),
	} {
		given := roomy(image)
		v, l := journal.Look(given)
		_, other := journal.Look(given)
		journal.Quiet(given)
		if string(given[:cap(given)][:len(image)+15]) != image+"the room behind" {
			t.Errorf("the image is changed")
		}
		spoil(given)
		spoil(other)
		if want, content, _ := plainLook(image); v != want || string(l) != content {
			t.Errorf("Look = %v, %s", v, short(string(l)))
		}
	}
}

func TestMemorySeal(t *testing.T) { // P0.3
	s := api.Seal{State: 2, Seq: 1, Old: 2, New: 3, Count: 4, Length: 5, Sum: 6}
	a, _ := journal.EncodeSeal(s)
	b, _ := journal.EncodeSeal(s)
	spoil(b)
	given := roomy(string(a))
	if back, e := journal.DecodeSeal(given); back != s || e != api.OK || string(given[:cap(given)][:527]) != string(a)+"the room behind" {
		t.Errorf("DecodeSeal = %v, %d", back, e)
	}
	if string(a) != plainSector(s) {
		t.Errorf("an answer is changed by another's owner")
	}
}

func TestMemoryApply(t *testing.T) { // P0.3
	content, data := roomy(hello), roomy("j")
	writes := []api.Write{{At: 0, Data: data}, {At: 5, Data: data}}
	for _, size := range []int{6, 12, 40} {
		a, _ := journal.Apply(content, size, writes)
		b, _ := journal.Apply(content, size, writes)
		want := string(a)
		spoil(b)
		if string(a) != want || string(content[:cap(content)][:27]) != hello+"the room behind" || string(data[:cap(data)][:16]) != "jthe room behind" || len(writes) != 2 || writes[0].At != 0 || writes[1].At != 5 {
			t.Errorf("Apply to %d bytes shares memory, or changes what it was given", size)
		}
	}
	kept, _ := journal.Apply(content, 12, writes)
	spoil(content)
	spoil(data)
	if string(kept) != "jelloj world" {
		t.Errorf("the answer became %q", kept)
	}
}

func TestMemoryUpdate(t *testing.T) { // P0.3: the writes' bytes are not kept by the disk, nor changed
	data := roomy("j")
	writes := []api.Write{{At: 0, Data: data}, {At: 5, Data: data}}
	d := holds(t, hello, 4096)
	e := journal.Update(d, 1, 12, writes)
	journal.Need(12, 12, writes)
	if e != api.OK || string(data[:cap(data)][:16]) != "jthe room behind" || writes[0].At != 0 || writes[1].At != 5 {
		t.Errorf("Update = %d, or it changes what it was given", e)
	}
	spoil(data)
	clear(writes)
	found, _ := d.Crash(api.Choice{})
	if string(d.Image()) != "jelloj world" || string(found.Image()) != "jelloj world" {
		t.Errorf("the disk became %s", short(string(d.Image())))
	}
}

func TestSideBySide(t *testing.T) { // P0.7: many disks at a time, with the same writes
	writes := []api.Write{write(0, "j"), write(7, "W")}
	var found [16]string
	var all sync.WaitGroup
	for i := range found {
		d := holds(t, hello, 4096)
		all.Go(func() {
			d.Fuse(i)
			e := journal.Update(d, i, 12, writes)
			next, _ := d.Crash(api.Choice{Size: 1, Rest: 2})
			_, f := journal.Recover(next)
			if f == api.OK && (e == api.OK) == (i >= 13) {
				found[i] = string(next.Image())
			}
		})
	}
	all.Wait()
	for i, s := range found {
		want := hello
		if i >= 10 { // the done seal was written, and is kept
			want = "jello, World"
		}
		if s != want {
			t.Errorf("with Fuse(%d): %s", i, short(s))
		}
	}
}
