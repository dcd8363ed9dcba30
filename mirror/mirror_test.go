package mirror_test

import (
	"strings"
	"testing"

	"valise/api"
	"valise/disk"
	"valise/field"
	"valise/mirror"
	"valise/valise"
)

func TestMirror(t *testing.T) { // P25.5
	d, v := over(t, "", 1<<16)
	var want []api.Want
	for i, name := range []string{"z", "a/b", "é", "a/", "B", "a"} {
		w := wanted(name, many("text of "+name, i*i))
		if i%2 == 0 {
			w.How = packed
		}
		want = append(want, w)
	}
	mirrors(t, v, api.Done{Added: 6}, want...)
	names(t, v, "B", "a", "a/", "a/b", "z", "é")
	image, calls := string(d.Image()), d.Calls()
	mirrors(t, v, api.Done{Kept: 6}, want...)
	for i := range want {
		want[i].How.Level = 9 - want[i].How.Level // which is not asked
	}
	mirrors(t, v, api.Done{Kept: 6}, want[3], want[5], want[0], want[2], want[4], want[1])
	still(t, d, image, calls)
	want[0].How.Mode, want[1].How.Note, want[2].How.Method, want[3].How.Stamp.Day = 1, "another", 0, 2
	mirrors(t, v, api.Done{Replaced: 4, Kept: 2}, want...)
	want[4].Data, want[5].Name = nil, "c"
	mirrors(t, v, api.Done{Added: 1, Replaced: 1, Deleted: 1, Kept: 4}, want...)
	mirrors(t, v, api.Done{Deleted: 4, Kept: 2}, want[1], want[2])
	mirrors(t, v, api.Done{Deleted: 2})
	mirrors(t, v, api.Done{})
}

func TestMirrorLast(t *testing.T) { // P25.5: the wants that count
	_, v := over(t, "", 1<<14)
	bad := wanted("a", "bad")
	bad.How.Method = 3
	mirrors(t, v, api.Done{Added: 2}, bad, wanted("a", "1"), wanted("b", "1"), wanted("a", "2"))
	mirrors(t, v, api.Done{Kept: 1, Deleted: 1}, bad, wanted("a", "2"))
	refusesMirror(t, v, "a", api.ErrArg, wanted("a", "1"), bad)
	mirrors(t, v, api.Done{Replaced: 1}, wanted("a", "2"), wanted("a", "1"))
}

func TestMirrorNothing(t *testing.T) { // P25.5: where no step is to be made, no changing call is made
	d, v := over(t, "", 0)
	mirrors(t, v, api.Done{})
	mirrors(t, v, api.Done{}, []api.Want{}...)
	still(t, d, "", 0)
	file := holding(t, "a", "b")
	d, v = over(t, file, len(file))
	a, b := wanted("a", "a"), wanted("b", "b")
	a.How.Mode, b.How.Mode = 420, 420
	mirrors(t, v, api.Done{Kept: 2}, b, a, b)
	still(t, d, file, 0)
	d.Fuse(0)
	mirrors(t, v, api.Done{Kept: 2}, b, a) // no call in which the power could fail
	refusesMirror(t, v, "", api.ErrFull, b)
	still(t, d, file, 0)
}

// made is an archive of stored entries of these names and data, some of whose bytes are then changed.
func made(t *testing.T, change func(image string) string, pairs ...string) (*disk.Disk, *valise.Valise) {
	t.Helper()
	var want []api.Want
	for i := 0; i < len(pairs); i += 2 {
		want = append(want, wanted(pairs[i], pairs[i+1]))
	}
	d, v := over(t, "", 1<<14)
	mirrors(t, v, api.Done{Added: len(want)}, want...)
	return over(t, change(string(d.Image())), 1<<14)
}

func TestMirrorDamaged(t *testing.T) { // P25.5: what is damaged is replaced, at its place
	for _, damaged := range []string{"hallo", "hellO", "\x00\x00\x00\x00\x00"} {
		_, v := made(t, func(image string) string { return strings.Replace(image, "hello", damaged, 1) }, "a", "hello", "b", "b")
		if list, err := v.Verify(); len(list) != 1 || err != nil {
			t.Fatalf("%q, %v", list, err)
		}
		mirrors(t, v, api.Done{Replaced: 1, Kept: 1}, wanted("a", "hello"), wanted("b", "b"))
		mirrors(t, v, api.Done{Kept: 2}, wanted("a", "hello"), wanted("b", "b"))
	}
	w := wanted("a", many("hello ", 100))
	w.How = packed
	d, v := over(t, "", 1<<14)
	mirrors(t, v, api.Done{Added: 1}, w)
	image := []byte(d.Image())
	image[31+5]++
	_, v = over(t, string(image), 1<<14)
	mirrors(t, v, api.Done{Replaced: 1}, w)
	x := item("a", "") // even where what can't be read would be as long as nothing
	x.Method, x.Need, x.Packed, x.Bytes = 8, 20, 1, []byte("\x07")
	_, v = over(t, laid(t, x), 1<<14)
	w.Data, w.How = nil, api.How{Method: 8, Mode: 420, Stamp: firstDay}
	mirrors(t, v, api.Done{Replaced: 1}, w)
	mirrors(t, v, api.Done{Kept: 1}, w)
}

func TestMirrorForged(t *testing.T) { // P25.5: other bytes with the same sum are replaced
	for _, data := range []string{"hello", "hello, world"} {
		other := forged(data)
		if other == data || field.Sum([]byte(other)) != field.Sum([]byte(data)) {
			t.Fatalf("%q and %q", data, other)
		}
		d, v := over(t, "", 1<<14)
		mirrors(t, v, api.Done{Added: 2}, wanted("a", data), wanted("b", other))
		mirrors(t, v, api.Done{Replaced: 1, Kept: 1}, wanted("a", other), wanted("b", other))
		mirrors(t, v, api.Done{Replaced: 2}, wanted("b", data), wanted("a", data))
		_, calls := d.Image(), d.Calls()
		mirrors(t, v, api.Done{Kept: 2}, wanted("b", data), wanted("a", data))
		if d.Calls() != calls {
			t.Errorf("there were changing calls")
		}
		changed := strings.Replace(string(d.Image()), data, other, 1) // nor is it damaged, by its sum
		_, v = over(t, changed, 1<<14)
		mirrors(t, v, api.Done{Replaced: 1, Kept: 1}, wanted("b", data), wanted("a", data))
	}
}

func TestMirrorOrder(t *testing.T) { // P25.5: the replaced ones stand at their places: so the first refusal is theirs
	_, v := made(t, func(image string) string { return strings.Replace(image, "hello", "hallo", 1) }, "a", "hello", "b", "b", "c", "c")
	bad := wanted("x", "x")
	bad.How.Level = 10
	evil := wanted("a", "hello")
	evil.How.Level = -1 // not asked of what is kept, but this one is damaged
	refusesMirror(t, v, "a", api.ErrArg, wanted("b", "b"), evil, bad)
	refusesMirror(t, v, "x", api.ErrArg, bad, wanted("b", "b"), evil)
	kept := wanted("b", "b")
	kept.How.Level = -1
	refusesMirror(t, v, "x", api.ErrArg, kept, bad)
	mirrors(t, v, api.Done{Replaced: 1, Kept: 1, Deleted: 1}, kept, wanted("a", "hello"))
}

func TestMirrorRefused(t *testing.T) { // P25.5: the Batch's refusals, and that nothing is done
	file := holding(t, "a", "b")
	d, v := over(t, file, 1<<14)
	limit, err := valise.Open(d, api.Options{MaxEntries: 2})
	goes(t, err)
	short, err := valise.Open(d, api.Options{MaxData: 10})
	goes(t, err)
	how := func(change func(*api.How)) api.Want {
		w := wanted("n", "new")
		change(&w.How)
		return w
	}
	big := api.Want{Name: "big", Data: make([]byte, api.MaxCapacity+1), How: stored}
	for _, x := range []struct {
		v      *valise.Valise
		want   api.Want
		name   string
		reason api.Errno
	}{
		{v, wanted("", "x"), "", api.ErrName}, {v, wanted("../x", "x"), "../x", api.ErrName}, {v, wanted("a//b", ""), "a//b", api.ErrName}, {v, wanted(many("n", 65536), ""), many("n", 65536), api.ErrName},
		{v, how(func(h *api.How) { h.Method = 1 }), "n", api.ErrArg}, {v, how(func(h *api.How) { h.Level = 10 }), "n", api.ErrArg}, {v, how(func(h *api.How) { h.Mode = 65536 }), "n", api.ErrArg}, {v, how(func(h *api.How) { h.Note = many("n", 65536) }), "n", api.ErrArg},
		{v, how(func(h *api.How) { h.Stamp.Year = 1979 }), "n", api.ErrStamp}, {v, how(func(h *api.How) { h.Stamp = api.Stamp{} }), "n", api.ErrStamp}, {v, how(func(h *api.How) { h.Stamp.Second = -1 }), "n", api.ErrStamp},
		{v, big, "big", api.ErrBig}, {short, wanted("n", "eleven byte"), "n", api.ErrBig}, {limit, wanted("n", "x"), "n", api.ErrMany},
		{v, wanted("full", many("x", 1<<15)), "", api.ErrFull},
	} {
		a, b := wanted("a", "changed"), wanted("b", "b")
		b.How.Mode = 420
		refusesMirror(t, x.v, x.name, x.reason, a, b, x.want)
		refusesMirror(t, x.v, x.name, x.reason, x.want, b, b, a)
		still(t, d, file, 0)
		if text, err := x.v.Read("a"); string(text) != "a" || err != nil {
			t.Fatalf("the archive was changed: %q, %v", text, err)
		}
	}
	mirrors(t, limit, api.Done{Added: 2, Deleted: 2}, wanted("n", "0123456789"), wanted("m", "")) // those that go make room
	refusesMirror(t, limit, "o", api.ErrMany, wanted("m", ""), wanted("n", "other"), wanted("o", ""))
}

func TestMirrorForeign(t *testing.T) { // P25.5: entries of another program
	none, dos, odd := item("none", "text"), item("dos", "text"), item("odd", "text")
	none.Date = 0 // no time
	dos.Made, dos.External = 20, 0x41ed0010
	odd.Extra, odd.Comment, odd.Internal = "\x55\x54\x01\x00x", "of it", 1
	file := laid(t, none, dos, odd)
	a, b, c := wanted("none", "text"), wanted("dos", "text"), wanted("odd", "text")
	a.How.Stamp, a.How.Mode = api.Stamp{}, 420
	c.How.Mode, c.How.Note = 420, "of it"
	d, v := over(t, file, 1<<14)
	mirrors(t, v, api.Done{Kept: 3}, a, b, c)
	a.How.Stamp.Second = -1 // which is made 0
	if done, err := mirror.Mirror(v, a, b, c); done != (api.Done{Kept: 3}) || err != nil {
		t.Errorf("%v, %v", done, err)
	}
	still(t, d, file, 0)
	a.How.Stamp.Second = 2
	refusesMirror(t, v, "none", api.ErrStamp, a, b, c) // one that is no time is not kept by an archive
	a.How.Stamp, b.How.Mode = firstDay, 1
	mirrors(t, v, api.Done{Replaced: 2, Kept: 1}, a, b, c)
}

func TestMirrorBig(t *testing.T) { // P25.5: long texts, and an entry that says that it is longer than any may be
	long := wanted("long", many("0123456789abcde\n", 1<<17))
	long.How = packed
	d, v := over(t, "", 1<<22)
	mirrors(t, v, api.Done{Added: 1}, long)
	calls := d.Calls()
	mirrors(t, v, api.Done{Kept: 1}, long)
	if d.Calls() != calls {
		t.Errorf("there were changing calls")
	}
	vast := api.Want{Name: "vast", Data: make([]byte, api.MaxCapacity+1), How: api.How{Method: 8, Stamp: firstDay, Mode: 420}}
	x := item("vast", "no such text")
	x.Method, x.Need, x.Size, x.Sum = 8, 20, len(vast.Data), field.Sum(vast.Data)
	d, v = over(t, laid(t, x), 1<<14)
	refusesMirror(t, v, "vast", api.ErrBig, vast)
	mirrors(t, v, api.Done{Deleted: 1})
}

func TestMirrorMany(t *testing.T) { // P25.5
	var want []api.Want
	for i := range 400 {
		want = append(want, wanted("d"+many("/e", i%9)+"/"+many("n", 1+i/9), many("x", i)))
	}
	_, v := over(t, "", 1<<20)
	mirrors(t, v, api.Done{Added: 400}, want...)
	for i := range want {
		if i%3 == 0 {
			want[i].Data = []byte("other")
		}
	}
	mirrors(t, v, api.Done{Replaced: 100, Deleted: 100, Kept: 200}, want[:300]...)
}
