package salvage_test

import (
	"strconv"
	"strings"
	"testing"

	"valise/api"
	"valise/layout"
	"valise/salvage"
)

// rendered is the archive of items.
func rendered(t *testing.T, items ...api.Item) []byte {
	t.Helper()
	file, e := layout.Render(items, "")
	if e != api.OK {
		t.Fatalf("Render = %d", e)
	}
	return file
}

// refusesAll asks for ErrArg of both calls.
func refusesAll(t *testing.T, file string) {
	t.Helper()
	if got, e := salvage.Scan([]byte(file)); got != nil || e != api.ErrArg {
		t.Errorf("Scan of %d bytes = %s, %d", len(file), brief(got), e)
	}
	rebuilds(t, file, "", api.ErrArg)
}

func TestRebuildLast(t *testing.T) { // P19.2: the last one of each name, in the order of their places
	a1, a2, a3 := stored("a", "1"), packed("a", "2"), stored("a", "3")
	b1, b2, c := stored("b", "1"), packed("b", "22222"), stored("c", "")
	rebuilds(t, laid(a1)+laid(b1)+laid(a2)+laid(c)+laid(b2)+laid(a3), string(rendered(t, c, b2, a3)), api.OK)
	rebuilds(t, laid(a1)+laid(b1)+laid(a2), string(rendered(t, b1, a2)), api.OK)
	rebuilds(t, laid(a3)+with(laid(a1), 14, 0), string(rendered(t, a3)), api.OK) // one that is not whole doesn't count
	rebuilds(t, laid(a1)+laid(a1)+laid(a1), string(rendered(t, a1)), api.OK)
	rebuilds(t, laid(stored("a", laid(b1)))+laid(b2), string(rendered(t, stored("a", laid(b1)), b2)), api.OK)
}

func TestRebuildFlags(t *testing.T) { // P19.2: the weight 8 is taken out, and no other; all else stays
	for _, x := range []api.Item{packed("a", "text"), packed("a", "")} {
		x.Flags, x.Clock, x.Date, x.Extra, x.Need = 2|4|2048, 0xffff, 0x1234, "\x01\x00\x02\x00xy", 10
		want := string(rendered(t, x))
		for _, file := range []string{late(x, true), late(x, false), early(x, true), early(x, false), laid(x)} {
			rebuilds(t, "ahead"+file+"behind", want, api.OK)
		}
	}
	x := stored("dir/", "")
	x.Flags = 2048
	rebuilds(t, laid(x), string(rendered(t, x)), api.OK)
	y := stored("s", "text")
	rebuilds(t, early(y, false)+laid(x), string(rendered(t, y, x)), api.OK)
}

func TestRebuildLocalExtra(t *testing.T) { // P19.2: the extra text stands in both records then
	x := stored("a", "text")
	x.Extra = "\x01\x00\x01\x00x"
	b, _ := salvage.Rebuild([]byte(laid(x)))
	a, e := layout.Parse(b)
	if e != api.OK || len(a.Entries) != 1 || a.Entries[0].Extra != x.Extra || a.Entries[0].LocalExtra != x.Extra {
		t.Errorf("%v, %d", a, e)
	}
}

func TestRebuildMany(t *testing.T) { // P19.2: Render's error, where there are more names than an archive may have
	var file strings.Builder
	for i := range 65535 {
		file.WriteString(laid(stored(strconv.Itoa(i), "")))
	}
	b, e := salvage.Rebuild([]byte(file.String()))
	a, f := layout.Parse(b)
	if e != api.OK || f != api.OK || len(a.Entries) != 65535 || string(b[:a.DirAt]) != file.String() {
		t.Errorf("of 65535 names: %d, %d, %d", e, f, len(a.Entries))
	}
	file.WriteString(laid(stored("0", "again")))
	b, e = salvage.Rebuild([]byte(file.String()))
	a, _ = layout.Parse(b)
	if e != api.OK || len(a.Entries) != 65535 || a.Entries[0].Name != "1" || a.Entries[65534].Name != "0" {
		t.Errorf("of 65536 entries of 65535 names: %d, %d", e, len(a.Entries))
	}
	file.WriteString(laid(stored("one more", "")))
	rebuilds(t, file.String(), "", api.ErrRecWide)
	if found, e := salvage.Scan([]byte(file.String())); len(found) != 65537 || e != api.OK {
		t.Errorf("Scan = %d entries, %d", len(found), e)
	}
}

func TestRebuildBig(t *testing.T) { // P19.2: Render's error, where the archive would have too many bytes
	n := api.MaxCapacity - 76 - 2 - 22
	x, y := stored("a", filled(n)), stored("a", filled(n+1))
	rebuilds(t, laid(x), string(rendered(t, x)), api.OK)
	finds(t, laid(y), entry(y, 0, 0))
	rebuilds(t, laid(y), "", api.ErrArg)
	rebuilds(t, laid(y)+laid(stored("a", "")), string(rendered(t, stored("a", ""))), api.OK)
}

// sound asks for P19.4 and P19.5 of any file, and tells what Scan finds.
func sound(t *testing.T, file string) []api.Entry {
	t.Helper()
	found, e := salvage.Scan([]byte(file))
	if e != api.OK {
		t.Fatalf("Scan = %d", e)
	}
	at := 0
	last := map[string]api.Entry{}
	for _, x := range found {
		if x.From < at || x.Data < x.From+31 || x.To < x.Data+x.Packed || x.To > len(file) {
			t.Errorf("%s behind %d in %d bytes", brief([]api.Entry{x}), at, len(file))
		}
		if !says(file[x.Data:x.Data+x.Packed], x.Local) {
			t.Errorf("%s does not unpack", brief([]api.Entry{x}))
		}
		at = x.To
		last[x.Name] = x
	}
	b, e := salvage.Rebuild([]byte(file))
	a, f := layout.Parse(b)
	if e != api.OK || f != api.OK || len(layout.Gaps(a)) != 0 || len(a.Entries) != len(last) || a.Comment != "" {
		t.Fatalf("Rebuild = %.100q, %d; %d; %d names of %d", b, e, f, len(a.Entries), len(last))
	}
	for _, y := range a.Entries {
		x, there := last[y.Name]
		if !there || x.Method != y.Method || x.Sum != y.Sum || x.Packed != y.Packed || x.Size != y.Size || string(b[y.Data:y.To]) != file[x.Data:x.Data+x.Packed] {
			t.Errorf("%q: %v of %v", y.Name, y, x)
		}
	}
	rebuilds(t, string(b[:a.DirAt]), string(b), api.OK)
	return found
}
