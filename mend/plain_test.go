package mend_test

import (
	"hash/crc32"
	"slices"
	"strings"
	"testing"

	"valise/api"
	"valise/disk"
	"valise/inflate"
	"valise/journal"
	"valise/layout"
	"valise/mend"
	"valise/plan"
	"valise/record"
	"valise/salvage"
	"valise/store"
	"valise/valise"
)

// plainEnd is the place of the end record, by chapter 13's words.
func plainEnd(file string) (int, bool) {
	for p := len(file); p >= 0; p-- {
		if _, to, e := record.GetEnd([]byte(file), p); e == api.OK && to == len(file) {
			return p, true
		}
	}
	return 0, false
}

// plainCore tells whether a core is right, by chapter 13's words.
func plainCore(c api.Central) bool {
	_, e := record.SplitExtra(c.Extra)
	flags := []int{0, 2, 4, 6, 8, 10, 12, 14, 2048, 2050, 2052, 2054, 2056, 2058, 2060, 2062}
	return c.Disk == 0 && (c.Method == 0 && c.Packed == c.Size || c.Method == 8) && (c.Need == 10 || c.Need == 20) && slices.Contains(flags, c.Flags) && e == api.OK
}

// plainLocal tells the entry of a record, if all stands there, by P13.4 number 4.
func plainLocal(c api.Central, ahead []byte) (api.Entry, bool) {
	l, data, e := record.GetLocal(ahead, c.At)
	_, f := record.SplitExtra(l.Extra)
	described := c.Flags/8%2 == 1
	same := l.Need == c.Need && l.Flags == c.Flags && l.Method == c.Method && l.Clock == c.Clock && l.Date == c.Date && l.Name == c.Name
	told := l.Sum == c.Sum && l.Packed == c.Packed && l.Size == c.Size
	zero := l.Sum == 0 && l.Packed == 0 && l.Size == 0
	if e != api.OK || f != api.OK || !same || !told && !(described && zero) || data+c.Packed > len(ahead) {
		return api.Entry{}, false
	}
	x := api.Entry{Central: c, From: c.At, Data: data, To: data + c.Packed}
	if described {
		n, e := record.GetDescriptor(ahead, x.To, c.Local)
		if e != api.OK {
			return api.Entry{}, false
		}
		x.To += n
	}
	return x, true
}

// plainAudit is Audit by the chapter's words.
func plainAudit(file string) []api.Finding {
	var out []api.Finding
	v, l := journal.Look([]byte(file))
	if v.State != 0 {
		out = append(out, at(141, v.Size, ""))
	}
	content := string(l)
	if content == "" {
		return out
	}
	p, ok := plainEnd(content)
	if !ok {
		return append(out, at(130, 0, ""))
	}
	x, _, _ := record.GetEnd(l, p)
	if x.Disk != 0 || x.DirDisk != 0 || x.Here != x.Total {
		out = append(out, at(131, p, ""))
	}
	if x.DirAt+x.DirSize != p {
		out = append(out, at(132, p, ""))
	}
	var records []api.Central
	places := []int{x.DirAt}
	for x.DirAt <= p {
		c, next, e := record.GetCentral([]byte(content[:p]), places[len(places)-1])
		if e != api.OK {
			break
		}
		records, places = append(records, c), append(places, next)
	}
	if places[len(places)-1] != p || len(records) != x.Total {
		out = append(out, at(132, places[len(places)-1], ""))
	}
	var sound []api.Entry
	for i, c := range records {
		n := len(out)
		if !plainCore(c) {
			out = append(out, at(133, places[i], c.Name))
		}
		if record.CheckName(c.Name) != api.OK {
			out = append(out, at(134, places[i], c.Name))
		}
		if slices.ContainsFunc(records[:i], func(y api.Central) bool { return y.Name == c.Name }) {
			out = append(out, at(135, places[i], c.Name))
		}
		y, ok := plainLocal(c, []byte(content[:x.DirAt]))
		if !ok {
			out = append(out, at(136, c.At, c.Name))
		}
		if len(out) > n {
			continue
		}
		sound = append(sound, y)
		if !plainReads(content, y) {
			out = append(out, at(170, c.At, c.Name))
		}
	}
	for i, y := range sound {
		for _, z := range sound[:i] {
			if max(y.From, z.From) < min(y.To, z.To) {
				out = append(out, at(137, y.At, y.Name))
				break
			}
		}
	}
	return out
}

// plainReads tells whether an entry's bytes are as P17.7 wants them.
func plainReads(content string, x api.Entry) bool {
	plain := []byte(content[x.Data : x.Data+x.Packed])
	if x.Method == 8 {
		var e api.Errno
		if plain, e = inflate.Exact(plain, x.Size); e != api.OK {
			return false
		}
	}
	return crc32.ChecksumIEEE(plain) == x.Sum
}

// isWell tells whether a file is opened without any changing call, and none of its entries is damaged.
func isWell(t *testing.T, file string) bool {
	t.Helper()
	d := holding(t, file, most)
	v, err := valise.Open(d, api.Options{})
	if err != nil || d.Calls() > 0 {
		return false
	}
	damaged, err := v.Verify()
	if err != nil {
		t.Fatal(err)
	}
	return len(damaged) == 0
}

// audited asks for all that the chapter says of one file's findings.
func audited(t *testing.T, file string) []api.Finding {
	t.Helper()
	want := plainAudit(file)
	audits(t, file, want...)
	if well := isWell(t, file); well != (len(want) == 0) { // P26.2
		t.Errorf("%.100q: it is well: %v, with %s", file, well, brief(want))
	}
	v, _ := journal.Look([]byte(file))
	_, e := layout.Parse([]byte(file))
	if v.State == api.StateNone && e != api.OK { // P26.2
		i := slices.IndexFunc(want, func(x api.Finding) bool { return x.Code != api.ErrDamaged })
		if i < 0 || want[i].Code != e {
			t.Errorf("%.100q: Parse = %d, but %s", file, int(e), brief(want))
		}
	}
	return want
}

// plainMend is Mend by the chapter's words.
func plainMend(d *disk.Disk) (int, api.Errno) {
	if !d.Alive() {
		return 0, api.ErrDiskPower
	}
	s, e := store.Open(d)
	if e == api.OK {
		return len(s.Archive().Entries), api.OK
	}
	if !d.Alive() {
		return 0, api.ErrDiskPower
	}
	for {
		v, e := journal.Recover(d)
		if e != api.OK {
			return 0, e
		}
		if v.State == api.StateNone {
			break
		}
	}
	c := d.Image()
	r, e := salvage.Rebuild(c)
	if e != api.OK {
		return 0, e
	}
	if string(c) != string(r) {
		n, e := journal.Need(len(c), len(r), plan.Diff(c, r))
		if e != api.OK || n > d.Capacity() {
			return 0, api.ErrFull
		}
		if e := journal.Update(d, 0, len(r), plan.Diff(c, r)); e != api.OK {
			return 0, e
		}
	}
	found, _ := salvage.Scan(c)
	return len(namesOf(found)), api.OK
}

// namesOf is the names of entries, each once, rising.
func namesOf(entries []api.Entry) []string {
	var names []string
	for _, x := range entries {
		names = append(names, x.Name)
	}
	slices.Sort(names)
	return slices.Compact(names)
}

// mended holds Mend against the chapter's words, over a file on a disk of some capacity whose power fails behind so many changing calls (below 0: it doesn't), and tells Mend's error.
func mended(t *testing.T, file string, capacity, fuse int) api.Errno {
	t.Helper()
	d, twin := holding(t, file, capacity), holding(t, file, capacity)
	d.Fuse(fuse)
	twin.Fuse(fuse)
	n, e := mend.Mend(d)
	want, f := plainMend(twin)
	if n != want || e != f || string(d.Image()) != string(twin.Image()) || d.Calls() != twin.Calls() || d.Alive() != twin.Alive() {
		t.Errorf("Mend(%d bytes, %.100q, capacity %d, fuse %d) = %d, %d, %d calls, want %d, %d, %d calls", len(file), file, capacity, fuse, n, int(e), d.Calls(), want, int(f), twin.Calls())
	}
	for size := range 3 {
		for rest := range 3 {
			c := api.Choice{Size: size, Rest: rest}
			lost, _ := d.Crash(c)
			also, _ := twin.Crash(c)
			if string(lost.Image()) != string(also.Image()) {
				t.Errorf("Mend(%.100q), fuse %d: a crash that keeps %v leaves %d bytes, not %d", file, fuse, c, lost.Size(), also.Size())
			}
		}
	}
	if e == api.OK {
		opens(t, file, d)
	}
	return e
}

// opens asks for P26.5 of a disk on which Mend made something of a file.
func opens(t *testing.T, file string, d *disk.Disk) {
	t.Helper()
	left := string(d.Image())
	still := holding(t, left, len(left))
	s, e := store.Open(still)
	if e != api.OK || still.Calls() > 0 {
		t.Errorf("%.100q: Open = %d, %d calls", file, int(e), still.Calls())
		return
	}
	v, _ := journal.Look([]byte(file))
	if _, e := layout.Parse([]byte(file)); v.State != api.StateNone || e == api.OK {
		return
	}
	found, _ := salvage.Scan([]byte(file))
	if got, want := namesOf(s.Archive().Entries), namesOf(found); !slices.Equal(got, want) {
		t.Errorf("%.100q: the names %q, want %q", file, strings.Join(got, " "), strings.Join(want, " "))
	}
	if !isWell(t, left) {
		t.Errorf("%.100q: some of it is damaged", file)
	}
	audits(t, left)
}
