package plan_test

import (
	"math/rand"
	"slices"
	"strings"
	"testing"

	"valise/api"
	"valise/journal"
	"valise/layout"
	"valise/record"
)

var drawnNames = []string{"a", "b", "c", "d", "dir/", "dir/e", "é", "a b", "PK", "a longer name"}

// drawText is n drawn bytes, of which many are those of signatures.
func drawText(from *rand.Rand, n int) string {
	var text strings.Builder
	for range n {
		if from.Intn(3) == 0 {
			text.WriteByte(byte(from.Intn(256)))
		} else {
			text.WriteByte("PK\x01\x02\x03\x04\x05\x06\x07\x08\x00"[from.Intn(11)])
		}
	}
	return text.String()
}

// drawLength is how many bytes an entry is drawn with: few, or so many that a gap of them is seen.
func drawLength(from *rand.Rand) int {
	switch from.Intn(6) {
	case 0:
		return 0
	case 1:
		return 100 + from.Intn(1900)
	}
	return from.Intn(60)
}

// drawExtra is a drawn extra text.
func drawExtra(from *rand.Rand) string {
	var fields []api.Extra
	for range max(0, from.Intn(6)-3) {
		fields = append(fields, api.Extra{Tag: from.Intn(65536), Data: drawText(from, from.Intn(5))})
	}
	text, _ := record.JoinExtra(fields)
	return text
}

// drawRecord is a drawn record of an entry that may be, not told late.
func drawRecord(from *rand.Rand, name string, packed int) api.Central {
	pick := func(numbers ...int) int { return numbers[from.Intn(len(numbers))] }
	c := api.Central{Made: from.Intn(65536), Internal: from.Intn(65536), External: from.Intn(1 << 32)}
	c.Local = api.Local{Need: pick(10, 20), Flags: pick(0, 0, 2, 4, 6, 2048, 2050, 2054), Method: pick(0, 8), Clock: from.Intn(65536), Date: from.Intn(65536), Sum: from.Uint32(), Packed: packed, Size: packed}
	c.Name, c.Extra, c.Comment = name, drawExtra(from), drawText(from, max(0, from.Intn(12)-6))
	if c.Method == 8 {
		c.Size = from.Intn(1 << 32)
	}
	return c
}

// drawGap is what is drawn to stand ahead of a part, mostly nothing.
func drawGap(from *rand.Rand) string {
	switch from.Intn(8) {
	case 0, 1:
		return drawText(from, 1+from.Intn(140))
	case 2:
		return drawText(from, 1+from.Intn(2000))
	}
	return ""
}

// drawPart is a drawn part, with a gap ahead now and then, and told late now and then.
func drawPart(from *rand.Rand, name string) part {
	x := part{data: drawText(from, drawLength(from))}
	x.record = drawRecord(from, name, len(x.data))
	if from.Intn(3) == 0 {
		x.record.Flags |= 8
	}
	x.local = x.record.Local
	if from.Intn(2) == 0 {
		x.local.Extra = drawExtra(from)
	}
	if x.record.Flags&8 != 0 {
		b, _ := record.PutDescriptor(x.record.Local, from.Intn(2) == 0)
		x.behind = string(b)
		if from.Intn(3) > 0 {
			x.local.Sum, x.local.Packed, x.local.Size = 0, 0, 0
		}
	}
	x.gap = drawGap(from)
	return x
}

// drawAsk is a drawn call, seldom one with something wrong, mostly of an entry that is there.
func drawAsk(from *rand.Rand, parts []part) ask {
	name := func() string {
		if len(parts) > 0 && from.Intn(4) > 0 {
			return parts[from.Intn(len(parts))].record.Name
		}
		return drawnNames[from.Intn(len(drawnNames))]
	}
	x := ask{kind: []string{"add", "delete", "rename", "note", "compact"}[from.Intn(5)], capacity: most}
	switch x.kind {
	case "add":
		x.packed = drawText(from, drawLength(from))
		x.record = drawRecord(from, name(), len(x.packed))
		x.record.At = from.Int() - from.Int()
	case "note":
		x.comment = drawText(from, max(0, from.Intn(60)-30))
	case "delete":
		x.name = name()
	case "rename":
		x.name, x.to = name(), drawnNames[from.Intn(len(drawnNames))]
	}
	if from.Intn(25) == 0 {
		drawWrong(from, &x)
	}
	return x
}

// drawWrong makes something wrong with a call.
func drawWrong(from *rand.Rand, x *ask) {
	bad := []string{"", "/", "..", "a//", "\xff", "a\\"}[from.Intn(6)]
	switch from.Intn(4) {
	case 0:
		x.capacity = []int{-1, most + 1}[from.Intn(2)]
	case 1:
		x.record.Name, x.name, x.to = bad, bad, bad
	case 2:
		c := &x.record
		numbers := []*int{&c.Made, &c.Need, &c.Flags, &c.Method, &c.Clock, &c.Date, &c.Disk, &c.Internal, &c.External, &c.Packed, &c.Size}
		*numbers[from.Intn(len(numbers))] = []int{-1, 1, 8, 65536, 1 << 32}[from.Intn(5)]
	case 3:
		x.record.Extra = drawText(from, 1+from.Intn(5))
	}
}

// sealed is a comment of so many bytes with which a content of so many bytes ends like a claimed journal.
func sealed(size, length int) string {
	at := size/512*512 - 512
	sector, _ := journal.EncodeSeal(api.Seal{State: api.StateClaimed, Seq: 1, Old: size - 1024})
	text := string(sector) + zeros(size-at-512)
	return strings.Repeat("c", length-len(text)) + text
}

// drawCase is a drawn file, and a call over it. A part of the calls would lead, in place or moved, to a content that isn't quiet.
func drawCase(from *rand.Rand) (string, ask) {
	var parts []part
	for _, i := range from.Perm(len(drawnNames))[:from.Intn(6)] {
		parts = append(parts, drawPart(from, drawnNames[i]))
	}
	f := frame{order: from.Perm(len(parts)), comment: drawText(from, max(0, from.Intn(60)-30)), gap: drawGap(from)}
	x := drawAsk(from, parts)
	if len(parts) == 0 && from.Intn(2) == 0 {
		return "", x
	}
	if from.Intn(6) > 0 {
		return f.lay(parts...), x
	}
	comment := &f.comment
	if x.kind == "note" {
		comment = &x.comment
	}
	*comment = strings.Repeat("c", 1024+from.Intn(600))
	if from.Intn(5) == 0 {
		*comment = zeros(len(*comment))
	}
	file := f.lay(parts...)
	if c, e := plainChangeOf(file, mustParse(file), x); e == api.OK {
		n := []int{c.inPlace().plan.Size, c.moved().plan.Size}[from.Intn(2)]
		*comment = sealed(n, len(*comment))
	}
	return f.lay(parts...), x
}

// mustParse is the archive of a file that is one.
func mustParse(file string) api.Archive {
	a, _ := layout.Parse([]byte(file))
	return a
}

// drawCapacity is a drawn capacity for a call, mostly just enough for one of the ways of planning it, or one too few.
func drawCapacity(from *rand.Rand, file string, x ask) int {
	c, e := plainChangeOf(file, mustParse(file), x)
	if e != api.OK || from.Intn(3) == 0 {
		return x.capacity
	}
	d := c.inPlace()
	if from.Intn(2) == 0 {
		d = c.moved()
	}
	n, _ := journal.Need(len(file), d.plan.Size, d.plan.Writes)
	return n - from.Intn(2)
}

// fair holds P15.9 and P15.10 of a plan that is answered; it tells the content behind it.
func fair(t *testing.T, file string, x ask, p api.Plan) string {
	t.Helper()
	c, _ := plainChangeOf(file, mustParse(file), x)
	content, e := journal.Apply([]byte(file), p.Size, p.Writes)
	a, f := layout.Parse(content)
	quiet := journal.Quiet(content) || x.kind == "compact" && len(p.Writes) == 0 // a tight file stays what it is, by P15.8
	if e != api.OK || f != api.OK || !quiet || len(a.Entries) != len(c.entries(nil, 0)) {
		t.Fatalf("%v: what %s makes is read with %d, %d, and %d entries", x, brief(p), e, f, len(a.Entries))
	}
	sum, end := 0, -1
	for _, w := range p.Writes {
		if w.At <= end || len(w.Data) == 0 {
			t.Errorf("%v: the writes of %s", x, brief(p))
		}
		sum, end = sum+len(w.Data), w.At+len(w.Data)
		for _, y := range c.kept {
			if !p.Moves && w.At < y.To && end > y.From {
				t.Errorf("%v: %s touches %q at %d to %d", x, brief(p), y.Name, y.From, y.To)
			}
		}
	}
	if len(p.Writes) > 0 && end != p.Size {
		t.Errorf("%v: %s ends elsewhere", x, brief(p))
	}
	tight := layout.Tight(a.Entries, a.Comment)
	if p.Size > 2*tight || p.Moves && (p.Size != tight || sum > tight || len(layout.Gaps(a)) > 0) || x.kind == "compact" && p.Size != tight {
		t.Errorf("%v: %s, tight it has %d", x, brief(p), tight)
	}
	if x.kind != "compact" && !p.Moves && sum != len(c.extent())+a.Size-a.DirAt {
		t.Errorf("%v: %s writes %d bytes", x, brief(p), sum)
	}
	if x.kind == "compact" {
		if q, e := compacts().on(0).call(content, a); e != api.OK || len(q.Writes) != 0 || q.Size != p.Size || q.Moves {
			t.Errorf("a second Compact: %s, %d", brief(q), e)
		}
	}
	return string(content)
}

// keeps holds that the content has the extents of all kept entries, byte for byte, and the new one's.
func keeps(t *testing.T, file, content string, x ask) {
	t.Helper()
	c, _ := plainChangeOf(file, mustParse(file), x)
	var want, got []string
	for _, y := range c.kept {
		want = append(want, file[y.From:y.To])
	}
	if c.fresh {
		want = append(want, c.extent())
	}
	a := mustParse(content)
	for _, y := range a.Entries {
		got = append(got, content[y.From:y.To])
	}
	if !slices.Equal(got, want) || a.Comment != c.comment {
		t.Errorf("%v: the extents %.300q, want %.300q", x, got, want)
	}
}

// enough is the capacity from which on P15.11 promises that there is room; it says nothing of a file that is too long.
func enough(a api.Archive, x ask) (int, bool) {
	t := layout.Tight(a.Entries, a.Comment)
	n := 3*t + 4096
	switch x.kind {
	case "add":
		n += 76 + 2*(len(x.record.Name)+len(x.record.Extra)) + len(x.record.Comment) + len(x.packed)
	case "rename":
		for _, y := range a.Entries {
			if y.Name == x.name {
				n += 76 + 2*len(x.to) + y.Packed
			}
		}
	case "note":
		n += len(x.comment)
	}
	return n, a.Size <= 2*t
}

func TestModelPlans(t *testing.T) { // P15.3 to P15.11
	from := rand.New(rand.NewSource(153))
	seen := map[string]int{}
	for n := 0; n < 20000 && !t.Failed(); {
		file, x := drawCase(from)
		a, e := layout.Parse([]byte(file))
		if e != api.OK {
			continue
		}
		n++
		x.capacity = drawCapacity(from, file, x)
		if from.Intn(50) == 0 {
			a = drawOther(from, a)
		}
		p, e := x.call([]byte(file), a)
		want, f := plainPlan(file, a, x)
		if e != f || !samePlan(p, want) {
			t.Errorf("over %.600q %v = %s, %d, want %s, %d", file, x, brief(p), e, brief(want), f)
			continue
		}
		seen[x.kind+" "+e.Error()]++
		if e == api.OK {
			keeps(t, file, fair(t, file, x, p), x)
			countWays(seen, file, x, p)
		}
		if least, ok := enough(a, x); ok && sameArchive(a, mustParse(file)) {
			if _, e := x.on(max(least, x.capacity)).call([]byte(file), a); e == api.ErrFull {
				t.Errorf("over %.600q %v = ErrFull with %d", file, x, least)
			}
			if _, e := x.on(least).call([]byte(file), a); e == api.ErrFull {
				t.Errorf("over %.600q %v = ErrFull with %d", file, x, least)
			}
		}
	}
	if !t.Failed() {
		drawnEnough(t, seen)
	}
}

// drawOther is an archive that is not the file's.
func drawOther(from *rand.Rand, a api.Archive) api.Archive {
	a.Entries = slices.Clone(a.Entries)
	switch n := from.Intn(5); {
	case n == 0:
		a.Size++
	case n == 1:
		a.DirAt--
	case n == 2:
		a.Comment += "x"
	case n == 3 && len(a.Entries) > 0:
		y := &a.Entries[from.Intn(len(a.Entries))]
		*[]*int{&y.From, &y.Data, &y.To, &y.At, &y.Packed, &y.Made}[from.Intn(6)]++
	default:
		a.Entries = append(a.Entries, api.Entry{})
	}
	return a
}

// countWays counts by which way a plan was made, and why.
func countWays(seen map[string]int, file string, x ask, p api.Plan) {
	c, _ := plainChangeOf(file, mustParse(file), x)
	switch d := c.inPlace(); {
	case len(p.Writes) == 0:
		seen["nothing to do"]++
	case !p.Moves && len(p.Writes) == 2:
		seen["into a gap"]++
	case !p.Moves:
		seen["at the end"]++
	case x.kind == "compact":
		seen["compacted"]++
	case d.plan.Size > 2*c.tight():
		seen["moved: too long"]++
	case !c.readsBack(d):
		seen["moved: not quiet in place"]++
	default:
		seen["moved: no room in place"]++
	}
	if p.Moves && p.Writes[0].At > 0 {
		seen["some stay"]++
	}
}

// drawnEnough holds that the draws have met all that they are to meet.
func drawnEnough(t *testing.T, seen map[string]int) {
	t.Helper()
	wanted := []string{"nothing to do", "into a gap", "at the end", "compacted", "moved: too long", "moved: not quiet in place", "some stay"}
	all := []api.Errno{api.OK, api.ErrArg, api.ErrPlan, api.ErrNote, api.ErrFull}
	for kind, more := range map[string][]api.Errno{"add": {api.ErrName}, "delete": {api.ErrAbsent}, "rename": {api.ErrName, api.ErrAbsent, api.ErrTaken}, "note": nil, "compact": nil} {
		for _, e := range slices.Concat(all, more) {
			wanted = append(wanted, kind+" "+e.Error())
		}
	}
	for _, w := range wanted {
		if seen[w] < 30 {
			t.Errorf("%q was drawn %d times", w, seen[w])
		}
	}
}
