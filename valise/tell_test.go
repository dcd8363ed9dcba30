package valise_test

import (
	"maps"
	"slices"
	"strings"
	"testing"

	"valise/api"
	"valise/field"
	"valise/layout"
)

// item is an entry as another program may have laid it down: stored, of a right sum.
func item(name, text string) api.Item {
	l := api.Local{Need: 10, Date: 33, Sum: field.Sum([]byte(text)), Packed: len(text), Size: len(text), Name: name}
	return api.Item{Central: api.Central{Local: l, Made: 20}, Bytes: []byte(text)}
}

// laid is an archive of such entries.
func laid(t *testing.T, items ...api.Item) string {
	t.Helper()
	file, e := layout.Render(items, "")
	if e != api.OK {
		t.Fatalf("Render: %d", e)
	}
	return string(file)
}

func TestInfo(t *testing.T) { // P17.5
	for _, x := range []struct {
		made, external, date, clock int
		mode                        int
		stamp                       api.Stamp
	}{
		{788, 0, 33, 0, 0, epoch},
		{768, 65535, 33, 0, 0, epoch},
		{768, 65536, 33, 0, 1, epoch},
		{1023, 0xffffffff, 23918, 32253, 65535, api.Stamp{Year: 2026, Month: 11, Day: 14, Hour: 15, Minute: 47, Second: 58}},
		{788, 0100644<<16 | 0x20, 65439, 49021, 0100644, api.Stamp{Year: 2107, Month: 12, Day: 31, Hour: 23, Minute: 59, Second: 58}},
		{767, 0xffffffff, 33, 0, 0, epoch},
		{1024, 0xffffffff, 33, 0, 0, epoch},
		{20, 0xffffffff, 33, 0, 0, epoch},
		{65535, 0xffffffff, 33, 0, 0, epoch},
		{788, 0, 0, 0, 0, api.Stamp{}},
		{788, 7 << 16, 33, 30, 7, api.Stamp{}},
		{788, 7 << 16, 65535, 65535, 7, api.Stamp{}},
		{788, 7 << 16, 45*512 + 2*32 + 29, 0, 7, api.Stamp{}}, // no such day
	} {
		i := item("a/b", "text")
		i.Made, i.External, i.Date, i.Clock, i.Comment = x.made, x.external, x.date, x.clock, "any \xff\x00 note"
		i.Internal, i.Extra = 65535, "AB\x01\x00c"
		d, v := over(t, laid(t, item("first", ""), i), 9000)
		want := api.Info{Name: "a/b", Size: 4, Packed: 4, Sum: i.Sum, Stamp: x.stamp, Mode: x.mode, Note: "any \xff\x00 note"}
		if got, err := v.Stat("a/b"); got != want || err != nil {
			t.Errorf("Stat = %v, %v, want %v", got, err, want)
		}
		mapOf(t, d, v)
	}
}

func TestInfoSizes(t *testing.T) { // P17.5: as the record says, whatever the bytes do
	i := item("a", "no packed text")
	i.Method, i.Need, i.Size, i.Sum = 8, 20, api.MaxField, 0xffffffff
	_, v := over(t, laid(t, i), 9000)
	want := api.Info{Name: "a", Size: api.MaxField, Packed: 14, Method: 8, Sum: 0xffffffff, Stamp: epoch}
	if got, err := v.Stat("a"); got != want || err != nil {
		t.Errorf("Stat = %v, %v", got, err)
	}
}

func TestRising(t *testing.T) { // P17.6: by bytes, whatever their order in the directory
	rising := []string{"A", "B", "a", "a b", "a!", "a-", "a/", "a/b", "aa", "b", "z", "\xc2\x80", "\xc3\xa9", "\xef\xbf\xbd", "\xf0\x90\x80\x80"}
	for turn := range rising {
		var items []api.Item
		for i := range rising {
			name := rising[(i*7+turn)%len(rising)]
			items = append(items, item(name, "text of "+name))
		}
		d, v := over(t, laid(t, items...), 9000)
		if got := names(v); !slices.Equal(got, rising) {
			t.Errorf("Names = %q", got)
		}
		list, err := v.List()
		goes(t, err)
		for i, x := range list {
			if x.Name != rising[i] || x.Sum != field.Sum([]byte("text of "+x.Name)) {
				t.Errorf("List has %v at %d", x, i)
			}
		}
		if len(list) != len(rising) {
			t.Errorf("List has %d", len(list))
		}
		mapOf(t, d, v)
	}
}

func TestAbsent(t *testing.T) { // P17.6, P17.7
	d, v := over(t, filled(t, "", "a", "hi", "dir/", "", "dir/b", "ho"), 9000)
	for _, name := range []string{"", "A", "a/", "a\x00", "dir", "dir/c", "b", "dir/b/", " a", "/", "..", "\xff", strings.Repeat("n", 70000)} {
		still(t, d, func() {
			i, err := v.Stat(name)
			fails(t, err, "stat", name, api.ErrAbsent)
			b, err := v.Read(name)
			fails(t, err, "read", name, api.ErrAbsent)
			fails(t, v.Delete(name), "delete", name, api.ErrAbsent)
			if i != (api.Info{}) || b != nil {
				t.Errorf("%q: %v, %q", name, i, b)
			}
		})
	}
}

func TestNamesStop(t *testing.T) { // P17.6: a loop that stops early
	d, v := over(t, filled(t, "", "a", "1", "b", "2", "c", "3", "d", "4"), 9000)
	all := v.Names()
	for stop := range 5 {
		var got []string
		for name := range all {
			if len(got) == stop {
				break
			}
			got = append(got, name)
		}
		if !slices.Equal(got, []string{"a", "b", "c", "d"}[:stop]) {
			t.Errorf("stopped behind %d: %q", stop, got)
		}
	}
	if again := slices.Collect(all); !slices.Equal(again, []string{"a", "b", "c", "d"}) {
		t.Errorf("once more: %q", again)
	}
	all(nil) // no loop hands that in, but no call panics
	func() { // the valise goes on behind a loop that panics
		defer func() { recover() }()
		for range v.Names() {
			panic("the loop's own")
		}
	}()
	goes(t, v.Delete("b"))
	has(t, d, v, "a", "1", "c", "3", "d", "4")
}

func TestNamesThen(t *testing.T) { // P17.6: as it was when Names was called, whatever becomes of the valise
	want := []string{"a", "b", "c"}
	d, v := over(t, filled(t, "", "a", "1", "b", "2", "c", "3"), 9000)
	ahead := v.Names()
	puts(t, v, "aa", "new")
	goes(t, v.Delete("b"))
	goes(t, v.Rename("a", "z"))
	if got := slices.Collect(ahead); !slices.Equal(got, want) {
		t.Errorf("behind changes: %q", got)
	}
	if got := names(v); !slices.Equal(got, []string{"aa", "c", "z"}) {
		t.Errorf("Names = %q", got)
	}
	var seen []string
	for name := range v.Names() { // changed within the loop
		seen = append(seen, name)
		goes(t, v.Delete(name))
		goes(t, v.Add("q"+name, nil, stored))
	}
	if !slices.Equal(seen, []string{"aa", "c", "z"}) {
		t.Errorf("within the loop: %q", seen)
	}
	alive := v.Names()
	d.Fuse(0)
	fails(t, v.Compact(), "compact", "", api.ErrDiskPower)
	dead := v.Names()
	goes(t, v.Close())
	if got := slices.Collect(alive); !slices.Equal(got, []string{"qaa", "qc", "qz"}) {
		t.Errorf("behind the valise's end: %q", got)
	}
	if got := slices.Collect(dead); len(got) != 0 {
		t.Errorf("of a dead one: %q", got)
	}
}

func TestNote(t *testing.T) { // P17.10
	for _, note := range []string{"", "a note", "\x00\xff", strings.Repeat("n", 65535)} {
		d, v := over(t, filled(t, note, "a", "hi"), 1<<20)
		got, told := mapOf(t, d, v)
		if told != note || len(got) != 1 {
			t.Errorf("Note = %s, %d entries", short(told), len(got))
		}
		goes(t, v.SetNote("another"))
		all, told := mapOf(t, d, v)
		if told != "another" || !maps.Equal(all, got) {
			t.Errorf("Note = %s", short(told))
		}
	}
}
