package salvage_test

import (
	"math/rand"
	"slices"
	"strings"
	"testing"

	"valise/api"
	"valise/deflate"
	"valise/field"
	"valise/inflate"
	"valise/layout"
	"valise/record"
	"valise/salvage"
)

// says tells whether packed bytes say what a local header tells, by 5 of the chapter's 'Words'.
func says(text string, l api.Local) bool {
	if l.Method == 0 {
		return l.Size == l.Packed && field.Sum([]byte(text)) == l.Sum
	}
	plain, e := inflate.Exact([]byte(text), l.Size)
	return e == api.OK && field.Sum(plain) == l.Sum
}

// plainWhole is the whole entry at a place, by the chapter's words, one behind the other.
func plainWhole(file []byte, p int) (api.Entry, bool) {
	l, data, e := record.GetLocal(file, p)
	if e != api.OK {
		return api.Entry{}, false
	}
	flags := []int{0, 2, 4, 6, 8, 10, 12, 14, 2048, 2050, 2052, 2054, 2056, 2058, 2060, 2062}
	_, extra := record.SplitExtra(l.Extra)
	if l.Method != 0 && l.Method != 8 || l.Need != 10 && l.Need != 20 || !slices.Contains(flags, l.Flags) || extra != api.OK || record.CheckName(l.Name) != api.OK {
		return api.Entry{}, false
	}
	described := l.Flags/8%2 == 1
	if !described || l.Sum != 0 || l.Packed != 0 || l.Size != 0 {
		if data+l.Packed > len(file) {
			return api.Entry{}, false
		}
	} else {
		if l.Method != 8 {
			return api.Entry{}, false
		}
		plain, used, e := inflate.Inflate(file[data:], api.MaxCapacity)
		if e != api.OK {
			return api.Entry{}, false
		}
		l.Packed, l.Size, l.Sum = used/8, len(plain), field.Sum(plain)
		if used%8 > 0 {
			l.Packed++
		}
	}
	to := data + l.Packed
	if described {
		n, e := record.GetDescriptor(file, to, l)
		if e != api.OK {
			return api.Entry{}, false
		}
		to += n
	}
	if !says(string(file[data:data+l.Packed]), l) {
		return api.Entry{}, false
	}
	return api.Entry{Central: api.Central{Local: l, Made: 20, At: p}, LocalExtra: l.Extra, From: p, Data: data, To: to}, true
}

// plainScan is Scan by the chapter's words, place by place.
func plainScan(file string) []api.Entry {
	var found []api.Entry
	for p := 0; p < len(file); {
		x, ok := plainWhole([]byte(file), p)
		if !ok {
			p++
			continue
		}
		found = append(found, x)
		p = x.To
	}
	return found
}

// plainRebuild is Rebuild by the chapter's words.
func plainRebuild(file string) (string, api.Errno) {
	found := plainScan(file)
	var items []api.Item
	for i, x := range found {
		if slices.ContainsFunc(found[i+1:], func(y api.Entry) bool { return y.Name == x.Name }) {
			continue
		}
		c := x.Central
		if c.Flags/8%2 == 1 {
			c.Flags -= 8
		}
		items = append(items, api.Item{Central: c, Bytes: []byte(file[x.Data : x.Data+x.Packed])})
	}
	b, e := layout.Render(items, "")
	return string(b), e
}

// drawText is a drawn text of few letters, so that much of it is copies.
func drawText(r *rand.Rand, n int) string {
	b := make([]byte, r.Intn(n+1))
	for i := range b {
		b[i] = "ab\x00PK\x03\x04"[r.Intn(7)]
	}
	return string(b)
}

// drawItem is a drawn item whose packed bytes say what it tells.
func drawItem(r *rand.Rand, within string) api.Item {
	plain := drawText(r, 60)
	if r.Intn(4) == 0 {
		plain = within
	}
	name := []string{"a", "b", "c/d", "dir/", "\xc3\xa9"}[r.Intn(5)]
	x := stored(name, plain)
	if r.Intn(2) == 0 {
		b, _ := deflate.Deflate([]byte(plain), r.Intn(10))
		x = packedAs(name, plain, string(b))
	}
	x.Need, x.Flags = 10*(1+r.Intn(2)), []int{0, 2, 4, 6, 2048, 2054}[r.Intn(6)]
	x.Clock, x.Date = r.Intn(65536), r.Intn(65536)
	if r.Intn(3) == 0 {
		x.Extra = []string{"\x55\x54\x01\x00\x07", "\x00\x00\x00\x00", "PK\x04\x00PK\x03\x04"}[r.Intn(3)]
	}
	return x
}

// drawFile is drawn entries one behind the other, in all forms, with bytes between.
func drawFile(r *rand.Rand, depth int) string {
	var file strings.Builder
	for range r.Intn(5) {
		if r.Intn(3) == 0 {
			file.WriteString(drawText(r, 12))
		}
		within := ""
		if depth > 0 {
			within = drawFile(r, depth-1)
		}
		x := drawItem(r, within)
		switch r.Intn(3) {
		case 0:
			file.WriteString(laid(x))
		case 1:
			file.WriteString(early(x, r.Intn(2) == 0))
		default:
			file.WriteString(late(x, r.Intn(2) == 0))
		}
	}
	return file.String()
}

// spoilt is a file with a few changes: bytes that are others, taken out, put in, a part laid over another, a cut.
func spoilt(r *rand.Rand, file string) string {
	for range r.Intn(4) {
		if file == "" {
			return file
		}
		at := r.Intn(len(file))
		switch r.Intn(6) {
		case 0, 1:
			file = with(file, at, byte(r.Intn(256)))
		case 2:
			file = with(file, at, file[at]^1<<r.Intn(8))
		case 3:
			file = file[:at] + file[min(len(file), at+1+r.Intn(20)):]
		case 4:
			from := r.Intn(len(file))
			file = file[:at] + file[from:min(len(file), from+r.Intn(80))] + file[at:]
		default:
			file = file[:len(file)-r.Intn(min(30, len(file)))]
		}
	}
	return file
}

func TestModel(t *testing.T) { // P19.1, P19.2, P19.4, P19.5
	r := rand.New(rand.NewSource(19))
	seen := map[int]int{}
	for range 8000 {
		file := spoilt(r, drawFile(r, 2))
		want := plainScan(file)
		seen[min(len(want), 5)]++
		finds(t, file, want...)
		text, e := plainRebuild(file)
		rebuilds(t, file, text, e)
		sound(t, file)
		if t.Failed() {
			return
		}
	}
	for n := range 6 {
		if seen[n] < 100 {
			t.Errorf("%d entries were found %d times", n, seen[n])
		}
	}
}

func TestModelHeaders(t *testing.T) { // 'Words': every byte of an entry another one
	r := rand.New(rand.NewSource(191))
	for range 60 {
		x := drawItem(r, "")
		forms := []string{laid(x), early(x, true), early(x, false), late(x, true), late(x, false)}
		file := forms[r.Intn(len(forms))] + laid(stored("z", "last"))
		for at := range file {
			for _, b := range []byte{file[at] + 1, file[at] ^ 8, byte(r.Intn(256)), 0} {
				finds(t, with(file, at, b), plainScan(with(file, at, b))...)
			}
		}
	}
}

func TestModelBytes(t *testing.T) { // P0.1: any bytes
	r := rand.New(rand.NewSource(192))
	for range 3000 {
		b := make([]byte, r.Intn(200))
		r.Read(b)
		file := string(b)
		if r.Intn(2) == 0 {
			file = "PK\x03\x04\x14\x00\x08\x00\x08\x00\x00\x00\x21\x00" + strings.Repeat("\x00", 12) + "\x01\x00\x00\x00a" + file
		}
		finds(t, file, plainScan(file)...)
		sound(t, file)
	}
}

func FuzzScan(f *testing.F) { // P19.1, P19.2, P19.4, P19.5; go test runs the seeds alone
	f.Add([]byte(known))
	f.Add([]byte(late(packed("a", "text"), true) + early(stored("b", "hi"), false)))
	f.Fuzz(func(t *testing.T, file []byte) {
		finds(t, string(file), plainScan(string(file))...)
		text, e := plainRebuild(string(file))
		rebuilds(t, string(file), text, e)
		sound(t, string(file))
	})
}

func TestCuts(t *testing.T) { // P19.3
	r := rand.New(rand.NewSource(193))
	for range 300 {
		var items []api.Item
		for range r.Intn(6) {
			x := drawItem(r, drawFile(r, 1))
			x.Made, x.Internal, x.External, x.Comment = r.Intn(65536), r.Intn(65536), r.Intn(1<<32), drawText(r, 9)
			if !slices.ContainsFunc(items, func(y api.Item) bool { return x.Name == y.Name }) {
				items = append(items, x)
			}
		}
		file, e := layout.Render(items, drawText(r, 5))
		a, f := layout.Parse(file)
		if e != api.OK || f != api.OK {
			t.Fatalf("%d, %d", e, f)
		}
		for cut := range len(file) + 1 {
			leaves(t, string(file[:cut]), a.Entries)
		}
	}
}

// leaves asks for the entries of the uncut archive that end within the file, and that all else lies behind them.
func leaves(t *testing.T, file string, entries []api.Entry) {
	t.Helper()
	found, _ := salvage.Scan([]byte(file))
	for i, x := range entries {
		x.Made, x.Internal, x.External, x.Comment = 20, 0, 0, ""
		switch {
		case x.To > len(file):
			if i < len(found) && (found[i].From == x.From || i > 0 && found[i].From < entries[i-1].To) {
				t.Errorf("cut to %d bytes: %s", len(file), brief(found[i:]))
			}
			return
		case i >= len(found) || found[i] != x:
			t.Errorf("cut to %d bytes: %s, want %s at %d", len(file), brief(found), brief([]api.Entry{x}), i)
			return
		}
	}
}
