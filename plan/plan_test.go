package plan_test

import (
	"bytes"
	"fmt"
	"math"
	"slices"
	"strings"
	"testing"

	"valise/api"
	"valise/journal"
	"valise/layout"
	"valise/plan"
	"valise/record"
)

const most = api.MaxCapacity

// zeros is so many bytes 0.
func zeros(n int) string { return strings.Repeat("\x00", n) }

// recordOf is the record of an entry that may be, stored.
func recordOf(name string, packed int) api.Central {
	c := api.Central{Made: 20}
	c.Local = api.Local{Need: 10, Date: 33, Packed: packed, Size: packed, Name: name}
	return c
}

// part is an entry as a test lays it down: what the directory says, what the local header says, the bytes, and what stands ahead and behind.
type part struct {
	record api.Central // At is told by the place
	local  api.Local
	data   string
	behind string // the descriptor
	gap    string // ahead of the local header
}

// plainPart is a part that is stored and not told late.
func plainPart(name, data string) part {
	c := recordOf(name, len(data))
	return part{record: c, local: c.Local, data: data}
}

// latePart is a part that is told late, with or without the descriptor's signature.
func latePart(name, data string, signed bool) part {
	x := plainPart(name, data)
	x.record.Flags, x.record.Sum = 8, 0x01020304
	x.local = x.record.Local
	x.local.Sum, x.local.Packed, x.local.Size = 0, 0, 0
	b, _ := record.PutDescriptor(x.record.Local, signed)
	x.behind = string(b)
	return x
}

// behind is a part with a gap of so many bytes ahead.
func behind(gap int, x part) part {
	x.gap = strings.Repeat("-", gap)
	return x
}

// frame is what stands around the parts: bytes behind the last one, the comment, the directory's order (as the parts stand, if nil).
type frame struct {
	gap     string
	comment string
	order   []int
}

// lay lays parts down, by layer 12 alone.
func (f frame) lay(parts ...part) string {
	var file strings.Builder
	records := make([]api.Central, len(parts))
	for i, x := range parts {
		file.WriteString(x.gap)
		records[i] = x.record
		records[i].At = file.Len()
		b, _ := record.PutLocal(x.local)
		file.Write(b)
		file.WriteString(x.data + x.behind)
	}
	file.WriteString(f.gap)
	at := file.Len()
	for i := range records {
		if f.order != nil {
			i = f.order[i]
		}
		b, _ := record.PutCentral(records[i])
		file.Write(b)
	}
	b, _ := record.PutEnd(api.End{Here: len(parts), Total: len(parts), DirSize: file.Len() - at, DirAt: at, Comment: f.comment})
	return file.String() + string(b)
}

// sameArchive tells whether two archives are alike in all.
func sameArchive(a, b api.Archive) bool {
	return slices.Equal(a.Entries, b.Entries) && a.DirAt == b.DirAt && a.Size == b.Size && a.Comment == b.Comment
}

// parsed is the archive of a file.
func parsed(t *testing.T, file string) api.Archive {
	t.Helper()
	a, e := layout.Parse([]byte(file))
	if e != api.OK {
		t.Fatalf("Parse(%.200q) = %d", file, e)
	}
	return a
}

// brief is a plan in so many words as can be read.
func brief(p api.Plan) string {
	text := fmt.Sprintf("{Size %d, Moves %v", p.Size, p.Moves)
	for _, w := range p.Writes {
		text += fmt.Sprintf(", %d bytes at %d", len(w.Data), w.At)
	}
	return text + "}"
}

// samePlan tells whether two plans are alike in all.
func samePlan(p, q api.Plan) bool {
	return p.Size == q.Size && p.Moves == q.Moves && slices.EqualFunc(p.Writes, q.Writes, func(v, w api.Write) bool { return v.At == w.At && bytes.Equal(v.Data, w.Data) })
}

// ask is a call of the package, of one of its five kinds.
type ask struct {
	kind     string // add, delete, rename, note, compact
	record   api.Central
	packed   string
	name, to string
	comment  string
	capacity int
}

// adds, deletes, renames, notes and compacts are calls with all the room that may be.
func adds(name, packed string) ask {
	return ask{kind: "add", record: recordOf(name, len(packed)), packed: packed, capacity: most}
}
func deletes(name string) ask     { return ask{kind: "delete", name: name, capacity: most} }
func renames(from, to string) ask { return ask{kind: "rename", name: from, to: to, capacity: most} }
func notes(comment string) ask    { return ask{kind: "note", comment: comment, capacity: most} }
func compacts() ask               { return ask{kind: "compact", capacity: most} }

// on is a call with so much room.
func (x ask) on(capacity int) ask {
	x.capacity = capacity
	return x
}

// call makes the call.
func (x ask) call(file []byte, a api.Archive) (api.Plan, api.Errno) {
	switch x.kind {
	case "add":
		return plan.Add(file, a, x.record, []byte(x.packed), x.capacity)
	case "delete":
		return plan.Delete(file, a, x.name, x.capacity)
	case "rename":
		return plan.Rename(file, a, x.name, x.to, x.capacity)
	case "note":
		return plan.Note(file, a, x.comment, x.capacity)
	}
	return plan.Compact(file, a, x.capacity)
}

// String is the call in so many words as can be read.
func (x ask) String() string {
	return fmt.Sprintf("%s(%.20q %.20q %.20q, %d packed, a comment of %d, capacity %d)", x.kind, x.record.Name, x.name, x.to, len(x.packed), len(x.comment), x.capacity)
}

// refused holds that a call answers this error and no plan.
func refused(t *testing.T, file string, x ask, want api.Errno) {
	t.Helper()
	if p, e := x.call([]byte(file), parsed(t, file)); e != want || !samePlan(p, api.Plan{}) || p.Writes != nil {
		t.Errorf("%v = %s, %d, want %d", x, brief(p), e, want)
	}
}

// planned holds a plan's size, its way and where its writes stand (At, bytes, At, bytes ..), and tells the file behind it.
func planned(t *testing.T, file string, x ask, size int, moves bool, writes ...int) string {
	t.Helper()
	p, e := x.call([]byte(file), parsed(t, file))
	var got []int
	for _, w := range p.Writes {
		got = append(got, w.At, len(w.Data))
	}
	if e != api.OK || p.Size != size || p.Moves != moves || !slices.Equal(got, writes) {
		t.Fatalf("%v = %s, %d, want Size %d, Moves %v, %v", x, brief(p), e, size, moves, writes)
	}
	next, e := journal.Apply([]byte(file), p.Size, p.Writes)
	if e != api.OK {
		t.Fatalf("%v: Apply = %d", x, e)
	}
	return string(next)
}

// holds holds that a file is an archive of these names with these packed bytes, in the directory's order.
func holds(t *testing.T, file string, want ...string) {
	t.Helper()
	var got []string
	for _, x := range parsed(t, file).Entries {
		got = append(got, x.Name, file[x.Data:x.Data+x.Packed])
	}
	if !slices.Equal(got, want) {
		t.Errorf("the entries %.300q, want %.300q", got, want)
	}
}

func TestFit(t *testing.T) { // P15.1
	spans := func(places ...int) []api.Span {
		var list []api.Span
		for pair := range slices.Chunk(places, 2) {
			list = append(list, api.Span{From: pair[0], To: pair[1]})
		}
		return list
	}
	for _, x := range []struct {
		gaps       []api.Span
		need, want int
	}{
		{spans(4, 7, 9, 14), 0, 4}, {spans(4, 7, 9, 14), 3, 4}, {spans(4, 7, 9, 14), 4, 9}, {spans(4, 7, 9, 14), 5, 9}, {spans(4, 7, 9, 14), 6, -1},
		{spans(9, 14, 4, 7), 3, 9}, // the first of the list, not of the file
		{nil, 0, -1}, {spans(7, 7), 0, 7}, {spans(7, 7), 1, -1}, {spans(7, 6), 0, -1}, {spans(-1, 5), 0, -1}, {spans(-1, 5, 0, 1), 1, 0},
		{spans(4, 7), -1, -1}, {spans(4, 7), math.MinInt, -1}, {spans(7, 4), -3, -1},
		{spans(math.MinInt, math.MaxInt), 1, -1}, {spans(math.MaxInt, math.MinInt), 1, -1}, {spans(math.MaxInt, math.MinInt), 0, -1}, // the differences of these leave the ints
		{spans(0, math.MaxInt), math.MaxInt, 0}, {spans(1, math.MaxInt), math.MaxInt, -1}, {spans(math.MaxInt, math.MaxInt), 0, math.MaxInt},
		{spans(math.MinInt, math.MinInt), 0, -1}, {spans(1, math.MinInt), math.MaxInt, -1},
	} {
		if n := plan.Fit(x.gaps, x.need); n != x.want {
			t.Errorf("Fit(%v, %d) = %d, want %d", x.gaps, x.need, n, x.want)
		}
	}
}

func TestLimits(t *testing.T) { // P15.2
	for _, x := range []struct {
		entries, size, maxEntries, maxData int
		want                               api.Errno
	}{
		{0, 0, 0, 0, api.OK}, {65535, 1 << 24, 0, 0, api.OK}, {65536, 0, 0, 0, api.ErrMany}, {0, 1<<24 + 1, 0, 0, api.ErrBig}, {math.MaxInt, math.MaxInt, 0, 0, api.ErrMany},
		{1, 1, 1, 1, api.OK}, {2, 1, 1, 1, api.ErrMany}, {1, 2, 1, 1, api.ErrBig}, {2, 2, 1, 1, api.ErrMany},
		{65535, 1 << 24, 65535, api.MaxField, api.OK}, {65536, 0, 65535, 0, api.ErrMany}, {0, 1<<24 + 1, 0, api.MaxField, api.ErrBig}, {0, 1 << 24, 0, 1<<24 - 1, api.ErrBig}, {0, 1<<24 - 1, 0, 1<<24 - 1, api.OK},
		{-1, 0, 0, 0, api.ErrArg}, {0, -1, 0, 0, api.ErrArg}, {math.MinInt, 1 << 30, 0, 0, api.ErrArg}, {70000, math.MinInt, 0, 0, api.ErrArg},
		{0, 0, -1, 0, api.ErrArg}, {0, 0, 65536, 0, api.ErrArg}, {0, 0, 0, -1, api.ErrArg}, {0, 0, 0, api.MaxField + 1, api.ErrArg},
		{70000, 1 << 30, math.MinInt, 0, api.ErrArg}, {70000, 1 << 30, 0, math.MaxInt, api.ErrArg}, {70000, 1 << 30, math.MaxInt, 0, api.ErrArg},
	} {
		if e := plan.Limits(x.entries, x.size, api.Options{MaxEntries: x.maxEntries, MaxData: x.maxData}); e != x.want {
			t.Errorf("Limits(%d, %d, {%d %d}) = %d, want %d", x.entries, x.size, x.maxEntries, x.maxData, e, x.want)
		}
	}
}

// headerOf is the bytes of a local header.
func headerOf(l api.Local) string {
	b, _ := record.PutLocal(l)
	return string(b)
}

// descriptorOf is the bytes of a signed descriptor.
func descriptorOf(l api.Local) string {
	b, _ := record.PutDescriptor(l, true)
	return string(b)
}
