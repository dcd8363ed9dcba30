package layout_test

import (
	"math"
	"math/big"
	"math/rand"
	"slices"
	"sort"
	"strings"
	"testing"

	"valise/api"
	"valise/record"
)

// plainEnd is FindEnd by the chapter's words.
func plainEnd(file string) (int, api.Errno) {
	for p := len(file); p >= 0; p-- {
		if _, to, e := record.GetEnd([]byte(file), p); e == api.OK && to == len(file) {
			return p, api.OK
		}
	}
	return 0, api.ErrLayEnd
}

// plainCore tells whether a core is right, by the chapter's words.
func plainCore(c api.Central) bool {
	_, e := record.SplitExtra(c.Extra)
	flags := []int{}
	for _, two := range []int{0, 2} {
		for _, four := range []int{0, 4} {
			for _, eight := range []int{0, 8} {
				flags = append(flags, two+four+eight, two+four+eight+2048)
			}
		}
	}
	return c.Disk == 0 && (c.Method == 0 && c.Packed == c.Size || c.Method == 8) && (c.Need == 10 || c.Need == 20) && slices.Contains(flags, c.Flags) && e == api.OK
}

// late tells whether a record of a right core is told late.
func late(c api.Central) bool { return c.Flags/8%2 == 1 }

// plainEntry is what P13.4 and P13.5 say of one record.
func plainEntry(c api.Central, ahead []byte, names []string) (api.Entry, api.Errno) {
	if !plainCore(c) {
		return api.Entry{}, api.ErrLayEntry
	}
	if record.CheckName(c.Name) != api.OK {
		return api.Entry{}, api.ErrLayName
	}
	if slices.Contains(names, c.Name) {
		return api.Entry{}, api.ErrLayTwice
	}
	l, data, e := record.GetLocal(ahead, c.At)
	_, f := record.SplitExtra(l.Extra)
	same := l.Need == c.Need && l.Flags == c.Flags && l.Method == c.Method && l.Clock == c.Clock && l.Date == c.Date && l.Name == c.Name
	told := l.Sum == c.Sum && l.Packed == c.Packed && l.Size == c.Size
	zero := l.Sum == 0 && l.Packed == 0 && l.Size == 0
	if e != api.OK || f != api.OK || !same || !told && !(late(c) && zero) || data+c.Packed > len(ahead) {
		return api.Entry{}, api.ErrLayLocal
	}
	x := api.Entry{Central: c, LocalExtra: l.Extra, From: c.At, Data: data, To: data + c.Packed}
	if late(c) {
		n, e := record.GetDescriptor(ahead, x.To, c.Local)
		if e != api.OK {
			return api.Entry{}, api.ErrLayLocal
		}
		x.To += n
	}
	return x, api.OK
}

// plainParse is Parse by the chapter's words.
func plainParse(file string) (api.Archive, api.Errno) {
	if file == "" {
		return api.Archive{}, api.OK
	}
	p, e := plainEnd(file)
	if e != api.OK {
		return api.Archive{}, e
	}
	x, _, _ := record.GetEnd([]byte(file), p)
	if x.Disk != 0 || x.DirDisk != 0 || x.Here != x.Total {
		return api.Archive{}, api.ErrLayDisk
	}
	if x.DirAt+x.DirSize != p {
		return api.Archive{}, api.ErrLayDir
	}
	var records []api.Central
	at := x.DirAt
	for at != p {
		c, next, e := record.GetCentral([]byte(file[:p]), at)
		if e != api.OK {
			return api.Archive{}, api.ErrLayDir
		}
		records, at = append(records, c), next
	}
	if len(records) != x.Total {
		return api.Archive{}, api.ErrLayDir
	}
	a := api.Archive{DirAt: x.DirAt, Size: len(file), Comment: x.Comment}
	var names []string
	for _, c := range records {
		y, e := plainEntry(c, []byte(file[:x.DirAt]), names)
		if e != api.OK {
			return api.Archive{}, e
		}
		a.Entries, names = append(a.Entries, y), append(names, y.Name)
	}
	for i, y := range a.Entries {
		for _, z := range a.Entries[:i] {
			if max(y.From, z.From) < min(y.To, z.To) {
				return api.Archive{}, api.ErrLayOverlap
			}
		}
	}
	return a, api.OK
}

// plainExtents is Extents by the chapter's words.
func plainExtents(a api.Archive) []api.Span {
	var spans []api.Span
	for _, x := range a.Entries {
		spans = append(spans, api.Span{From: x.From, To: x.To})
	}
	sort.SliceStable(spans, func(i, j int) bool { return spans[i].From < spans[j].From })
	return spans
}

// plainGaps is Gaps by the chapter's words: between two borders next to each other all places are alike.
func plainGaps(a api.Archive) []api.Span {
	borders := []int{0, max(0, a.DirAt)}
	for _, x := range a.Entries {
		borders = append(borders, x.From, x.To)
	}
	slices.Sort(borders)
	var spans []api.Span
	for i, to := range borders[1:] {
		from := borders[i]
		free := from >= 0 && from < a.DirAt && from < to
		for _, x := range a.Entries {
			free = free && !(from >= x.From && from < x.To)
		}
		if n := len(spans); free && n > 0 && spans[n-1].To == from {
			spans[n-1].To = to
		} else if free {
			spans = append(spans, api.Span{From: from, To: to})
		}
	}
	return spans
}

// plainTight is Tight by the chapter's words, in numbers of any size.
func plainTight(entries []api.Entry, comment string) int {
	n := 22 + len(comment)
	for _, x := range entries {
		n += 46 + len(x.Name) + len(x.Extra) + len(x.Comment)
		d := new(big.Int).Sub(big.NewInt(int64(x.To)), big.NewInt(int64(x.From)))
		if d.Sign() >= 0 && d.Cmp(big.NewInt(api.MaxCapacity)) <= 0 {
			n += int(d.Int64())
		}
	}
	return n
}

// plainRender is Render by the chapter's words.
func plainRender(items []api.Item, comment string) (string, api.Errno) {
	size := 22 + len(comment)
	for _, x := range items {
		size += 76 + len(x.Bytes) + len(x.Comment) + len(x.Name+x.Name) + len(x.Extra+x.Extra)
		if x.Packed != len(x.Bytes) {
			return "", api.ErrArg
		}
	}
	if size > api.MaxCapacity {
		return "", api.ErrArg
	}
	for i, x := range items {
		if !plainCore(x.Central) || late(x.Central) {
			return "", api.ErrLayEntry
		}
		if record.CheckName(x.Name) != api.OK {
			return "", api.ErrLayName
		}
		if slices.ContainsFunc(items[:i], func(y api.Item) bool { return y.Name == x.Name }) {
			return "", api.ErrLayTwice
		}
	}
	file, dir := "", ""
	for _, x := range items {
		x.At = len(file)
		local, e := record.PutLocal(x.Local)
		central, f := record.PutCentral(x.Central)
		if e != api.OK || f != api.OK {
			return "", api.ErrRecWide
		}
		file, dir = file+string(local)+string(x.Bytes), dir+string(central)
	}
	end, e := record.PutEnd(api.End{Here: len(items), Total: len(items), DirSize: len(dir), DirAt: len(file), Comment: comment})
	if e != api.OK {
		return "", api.ErrRecWide
	}
	whole := file + dir + string(end)
	if p, _ := plainEnd(whole); p != len(file+dir) {
		return "", api.ErrLayEnd
	}
	return whole, api.OK
}

// drawText is n drawn bytes, of which many are those of signatures.
func drawText(from *rand.Rand, n int) string {
	var text strings.Builder
	for range n {
		if from.Intn(3) == 0 {
			text.WriteByte(byte(from.Intn(256)))
		} else {
			text.WriteByte("PK\x01\x02\x03\x04\x05\x06\x07\x08\x00"[from.Intn(11)])
		}
	}
	return text.String()
}

// drawExtra is a drawn extra text, seldom one that may not be.
func drawExtra(from *rand.Rand) string {
	var fields []api.Extra
	for range max(0, from.Intn(6)-3) {
		fields = append(fields, api.Extra{Tag: from.Intn(65536), Data: drawText(from, from.Intn(5))})
	}
	text, _ := record.JoinExtra(fields)
	if from.Intn(60) == 0 {
		text += drawText(from, 1+from.Intn(4))
	}
	return text
}

// drawRecord is a drawn record, seldom one that may not be.
func drawRecord(from *rand.Rand, packed int) api.Central {
	pick := func(numbers ...int) int { return numbers[from.Intn(len(numbers))] }
	c := api.Central{Made: from.Intn(65536), Internal: from.Intn(65536), External: from.Intn(1 << 32)}
	c.Local = api.Local{Need: pick(10, 20), Flags: pick(0, 0, 2, 4, 6, 2048, 2050, 2054), Method: pick(0, 8), Clock: from.Intn(65536), Date: from.Intn(65536), Sum: from.Uint32(), Packed: packed, Size: packed}
	c.Name = []string{"a", "b", "c", "d", "dir/", "dir/e", "é", "a b", "PK", "longer name"}[from.Intn(10)]
	c.Extra = drawExtra(from)
	c.Comment = drawText(from, max(0, from.Intn(12)-6))
	if c.Method == 8 {
		c.Size = pick(0, packed, from.Intn(1<<32))
	}
	if from.Intn(40) > 0 {
		return c
	}
	switch from.Intn(7) {
	case 0:
		c.Need = pick(0, 11, 30, 45, 65535)
	case 1:
		c.Flags = pick(1, 16, 32, 64, 4096, 65535)
	case 2:
		c.Method = pick(1, 7, 9, 12, 65535)
	case 3:
		c.Disk = pick(1, 65535)
	case 4:
		c.Size++
	case 5:
		c.Name = []string{"", "/", "..", "a//", "\xff", "a\\"}[from.Intn(6)]
	case 6:
		c.Packed++
	}
	return c
}

// drawPart is a drawn part, seldom one that may not be.
func drawPart(from *rand.Rand) part {
	data := drawText(from, max(0, from.Intn(20)-4))
	x := part{record: drawRecord(from, len(data)), data: data}
	x.gap = drawText(from, max(0, from.Intn(12)-7))
	if from.Intn(3) == 0 {
		x.record.Flags |= 8
	}
	x.local = x.record.Local
	if from.Intn(2) == 0 {
		x.local.Extra = drawExtra(from)
	}
	if late(x.record) {
		b, _ := record.PutDescriptor(x.record.Local, from.Intn(2) == 0)
		x.behind = string(b)
		if from.Intn(3) > 0 {
			x.local.Sum, x.local.Packed, x.local.Size = 0, 0, 0
		}
	}
	switch from.Intn(120) {
	case 0:
		x.local.Sum++
	case 1:
		x.local.Flags ^= 8
	case 2:
		x.behind = ""
	case 3:
		x.data += "x"
	case 4:
		x.local.Name += "x"
	}
	return x
}

// drawFile is a drawn file: an archive, or one with something wrong.
func drawFile(from *rand.Rand) string {
	var parts []part
	for range from.Intn(5) {
		parts = append(parts, drawPart(from))
	}
	f := frame{gap: drawText(from, max(0, from.Intn(12)-7)), comment: drawText(from, max(0, from.Intn(40)-20)), order: from.Perm(len(parts))}
	if from.Intn(20) == 0 { // another one's bytes, or anything
		at := from.Intn(100)
		f.record = func(i int, c *api.Central) {
			if i > 0 {
				c.At = at
			}
		}
	}
	if from.Intn(20) == 0 {
		f.end = func(x *api.End) {
			*[]*int{&x.Disk, &x.DirDisk, &x.Here, &x.Total, &x.DirAt, &x.DirSize}[from.Intn(6)] = from.Intn(3)
		}
	}
	if len(parts) > 0 && from.Intn(12) == 0 { // an archive within an entry of the archive: a record may lead there
		inner := plainPart("inner", "x")
		b, _ := record.PutLocal(inner.local)
		outer := plainPart("outer", string(b)+"x")
		parts = append(parts, outer, inner)
		at := len(frame{}.lay(parts[:len(parts)-2]...))
		f.order = from.Perm(len(parts))
		f.record = func(i int, c *api.Central) {
			if i == len(parts)-2 {
				at = c.At + 30 + len("outer")
			}
			if i == len(parts)-1 {
				c.At = at
			}
		}
	}
	file := f.lay(parts...)
	switch from.Intn(8) {
	case 0:
		at := from.Intn(len(file))
		file = with(file, at, byte(from.Intn(256)))
	case 1:
		file = file[from.Intn(3):]
	case 2:
		file = file[:len(file)-from.Intn(3)]
	}
	return file
}

func TestModelParse(t *testing.T) { // P13.1 to P13.5
	from := rand.New(rand.NewSource(131))
	seen := map[api.Errno]int{}
	for range 40000 {
		file := drawFile(from)
		p, e := plainEnd(file)
		ends(t, file, p, e)
		a, e := plainParse(file)
		parses(t, file, a, e)
		seen[e]++
		if t.Failed() {
			return
		}
	}
	for _, e := range []api.Errno{api.OK, api.ErrLayEnd, api.ErrLayDisk, api.ErrLayDir, api.ErrLayEntry, api.ErrLayName, api.ErrLayTwice, api.ErrLayLocal, api.ErrLayOverlap} {
		if seen[e] < 100 {
			t.Errorf("the error %d was drawn %d times", e, seen[e])
		}
	}
}

// drawPlace is a drawn int: near 0, or near an end of the ints.
func drawPlace(from *rand.Rand) int {
	if from.Intn(8) > 0 {
		return from.Intn(40) - 8
	}
	return []int{math.MinInt, math.MaxInt, 1 << 24, -1 << 24, 1 << 62, -1 << 62}[from.Intn(6)] + from.Intn(9)
}

func TestModelSpans(t *testing.T) { // P13.6 to P13.8
	from := rand.New(rand.NewSource(136))
	for range 60000 {
		a := api.Archive{DirAt: drawPlace(from), Comment: drawText(from, from.Intn(5))}
		for range from.Intn(8) {
			x := api.Entry{From: drawPlace(from), To: drawPlace(from)}
			if from.Intn(2) == 0 {
				x.To = x.From + from.Intn(12)
			}
			x.Name, x.Extra, x.Comment, x.LocalExtra = drawText(from, from.Intn(4)), drawText(from, from.Intn(4)), drawText(from, from.Intn(4)), "local"
			a.Entries = append(a.Entries, x)
		}
		extents(t, a, plainExtents(a)...)
		gaps(t, a, plainGaps(a)...)
		tights(t, plainTight(a.Entries, a.Comment), a.Comment, a.Entries...)
		if t.Failed() {
			return
		}
	}
}

func TestModelRender(t *testing.T) { // P13.10, P13.11
	from := rand.New(rand.NewSource(1310))
	seen := map[api.Errno]int{}
	for range 40000 {
		var items []api.Item
		for range from.Intn(5) {
			data := drawText(from, from.Intn(12))
			items = append(items, api.Item{Central: drawRecord(from, len(data)), Bytes: []byte(data)})
		}
		comment := drawText(from, max(0, from.Intn(30)-15))
		if from.Intn(30) == 0 {
			n := from.Intn(4)
			comment += endOf(n) + drawText(from, n)
		}
		if len(items) > 0 && from.Intn(50) == 0 {
			x := &items[from.Intn(len(items))]
			*[]*int{&x.Made, &x.Clock, &x.Date, &x.Internal, &x.External}[from.Intn(5)] = []int{-1, 1 << 32}[from.Intn(2)]
		}
		file, e := plainRender(items, comment)
		renders(t, items, comment, file, e)
		seen[e]++
		if e == api.OK {
			givesBack(t, file, items, comment)
		}
		if t.Failed() {
			return
		}
	}
	for _, e := range []api.Errno{api.OK, api.ErrArg, api.ErrLayEnd, api.ErrLayEntry, api.ErrLayName, api.ErrLayTwice, api.ErrRecWide} {
		if seen[e] < 100 {
			t.Errorf("the error %d was drawn %d times", e, seen[e])
		}
	}
}
