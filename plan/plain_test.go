package plan_test

import (
	"sort"
	"strings"

	"valise/api"
	"valise/journal"
	"valise/layout"
	"valise/record"
)

// What stands here is the chapter word for word, place by place, with no thought of cost.

// plainChange is a change: the kept entries in the directory's order, and the new one's record, local header and packed bytes, if it has one.
type plainChange struct {
	file    string
	kept    []api.Entry
	fresh   bool
	record  api.Central
	local   api.Local
	packed  string
	comment string
}

// plainDraft is one of the two ways of planning a change: the plan, and the new archive.
type plainDraft struct {
	plan api.Plan
	next api.Archive
}

// header is the new entry's local header.
func (c plainChange) header() string {
	b, _ := record.PutLocal(c.local)
	return string(b)
}

// extent is the new entry's extent.
func (c plainChange) extent() string {
	if !c.fresh {
		return ""
	}
	return c.header() + c.packed
}

// entries is the new entries, each where it begins: the kept ones by their names, the new one.
func (c plainChange) entries(places map[string]int, at int) []api.Entry {
	var list []api.Entry
	for _, x := range c.kept {
		y := x
		y.From, y.At = places[x.Name], places[x.Name]
		y.Data, y.To = y.From+(x.Data-x.From), y.From+(x.To-x.From)
		list = append(list, y)
	}
	if c.fresh {
		y := api.Entry{Central: c.record, LocalExtra: c.local.Extra, From: at, Data: at + len(c.header()), To: at + len(c.extent())}
		y.At = at
		list = append(list, y)
	}
	return list
}

// tight is T.
func (c plainChange) tight() int { return layout.Tight(c.entries(map[string]int{}, 0), c.comment) }

// draft is a way of planning, but for its writes: the new archive, and its directory and end record.
func (c plainChange) draft(entries []api.Entry) (plainDraft, string) {
	end := 0
	var records []api.Central
	for _, x := range entries {
		end = max(end, x.To)
		records = append(records, x.Central)
	}
	dir, _ := layout.Directory(records, end, c.comment)
	next := api.Archive{Entries: entries, DirAt: end, Size: end + len(dir), Comment: c.comment}
	return plainDraft{api.Plan{Size: next.Size}, next}, string(dir)
}

// inPlace is the change in place.
func (c plainChange) inPlace() plainDraft {
	places, end := map[string]int{}, 0
	for _, x := range c.kept {
		places[x.Name] = x.From
		end = max(end, x.To)
	}
	free := make([]bool, end)
	for i := range free {
		free[i] = true
	}
	for _, x := range c.kept {
		for i := x.From; i < x.To; i++ {
			free[i] = false
		}
	}
	at := end
	for i := end - 1; i >= 0; i-- { // the last one that is found is the first one of the file
		if !free[i] || i > 0 && free[i-1] {
			continue
		}
		n := 0
		for i+n < end && free[i+n] {
			n++
		}
		if n >= len(c.extent()) {
			at = i
		}
	}
	d, dir := c.draft(c.entries(places, at))
	switch extent := c.extent(); {
	case extent == "":
		d.plan.Writes = []api.Write{{At: d.next.DirAt, Data: []byte(dir)}}
	case at+len(extent) == d.next.DirAt:
		d.plan.Writes = []api.Write{{At: at, Data: []byte(extent + dir)}}
	default:
		d.plan.Writes = []api.Write{{At: at, Data: []byte(extent)}, {At: d.next.DirAt, Data: []byte(dir)}}
	}
	return d
}

// moved is the change moved.
func (c plainChange) moved() plainDraft {
	rising := append([]api.Entry{}, c.kept...)
	sort.Slice(rising, func(i, j int) bool { return rising[i].From < rising[j].From })
	places, content := map[string]int{}, ""
	for _, x := range rising {
		places[x.Name] = len(content)
		content += c.file[x.From:x.To]
	}
	d, dir := c.draft(c.entries(places, len(content)))
	content += c.extent() + dir
	stay, sum := 0, 0
	for _, x := range rising {
		sum += x.To - x.From
		if sum == x.To { // all up to here are together as long as the bytes from 0 on: no gap
			stay = x.To
		}
	}
	d.plan.Writes, d.plan.Moves = []api.Write{{At: stay, Data: []byte(content[stay:])}}, true
	return d
}

// readsBack tells whether a plan reads back.
func (c plainChange) readsBack(d plainDraft) bool {
	content, e := journal.Apply([]byte(c.file), d.plan.Size, d.plan.Writes)
	if e != api.OK || !journal.Quiet(content) {
		return false
	}
	a, e := layout.Parse(content)
	return e == api.OK && sameArchive(a, d.next)
}

// hasRoom tells whether a plan has room.
func (c plainChange) hasRoom(d plainDraft, capacity int) bool {
	n, e := journal.Need(len(c.file), d.plan.Size, d.plan.Writes)
	return d.plan.Size <= api.MaxCapacity && e == api.OK && n <= capacity
}

// settled is P15.3, or, of Compact, what P15.8 says of a file that is not tight.
func (c plainChange) settled(capacity int, moved bool) (api.Plan, api.Errno) {
	if d := c.inPlace(); !moved && d.plan.Size <= 2*c.tight() && c.readsBack(d) && c.hasRoom(d, capacity) {
		return d.plan, api.OK
	}
	d := c.moved()
	if c.readsBack(d) && c.hasRoom(d, capacity) {
		return d.plan, api.OK
	}
	if d.plan.Size <= api.MaxCapacity && !c.readsBack(d) {
		return api.Plan{}, api.ErrNote
	}
	return api.Plan{}, api.ErrFull
}

// plainMayBeAdded is what P15.4 asks of a record and its bytes, ahead of the name.
func plainMayBeAdded(c api.Central, packed string) bool {
	_, e := record.SplitExtra(c.Extra)
	core := c.Disk == 0 && (c.Method == 0 && c.Packed == c.Size || c.Method == 8) && (c.Need == 10 || c.Need == 20)
	flags := false
	for _, f := range []int{0, 2, 4, 6} {
		flags = flags || c.Flags == f || c.Flags == f+2048
	}
	fits := true
	for _, n := range []int{c.Made, c.Need, c.Flags, c.Method, c.Clock, c.Date, c.Disk, c.Internal} {
		fits = fits && n >= 0 && n <= 65535
	}
	for _, n := range []int{c.Packed, c.Size, c.External} {
		fits = fits && n >= 0 && n <= 1<<32-1
	}
	return core && flags && fits && e == api.OK && len(packed) <= 1<<24 && c.Packed == len(packed) && len(c.Comment) <= 65535
}

// plainHigh tells whether a text has a byte of 0x80 or more.
func plainHigh(text string) bool {
	return strings.ContainsFunc(text, func(r rune) bool { return r >= 0x80 }) // a byte that is no UTF-8 comes as U+FFFD
}

// plainRenamed is the new entry of Rename.
func (c *plainChange) plainRenamed(x api.Entry, to string) {
	c.fresh, c.record, c.packed = true, x.Central, c.file[x.Data:x.Data+x.Packed]
	c.record.Name = to
	if c.record.Flags/8%2 == 1 {
		c.record.Flags -= 8
	}
	if c.record.Flags/2048%2 == 1 {
		c.record.Flags -= 2048
	}
	if plainHigh(to) || plainHigh(x.Comment) {
		c.record.Flags += 2048
	}
	c.local = c.record.Local
	c.local.Extra = x.LocalExtra
}

// plainChangeOf is the change that a call asks for, if it is not refused ahead of planning.
func plainChangeOf(file string, a api.Archive, x ask) (plainChange, api.Errno) {
	if x.capacity < 0 || x.capacity > 1<<24 || x.kind == "add" && !plainMayBeAdded(x.record, x.packed) || x.kind == "note" && len(x.comment) > 65535 {
		return plainChange{}, api.ErrArg
	}
	if x.kind == "add" && record.CheckName(x.record.Name) != api.OK || x.kind == "rename" && record.CheckName(x.to) != api.OK {
		return plainChange{}, api.ErrName
	}
	if b, e := layout.Parse([]byte(file)); e != api.OK || !sameArchive(a, b) {
		return plainChange{}, api.ErrPlan
	}
	c := plainChange{file: file, comment: a.Comment}
	there, taken := false, false
	for _, y := range a.Entries {
		goes := x.kind == "add" && y.Name == x.record.Name || (x.kind == "delete" || x.kind == "rename") && y.Name == x.name
		there, taken = there || goes, taken || y.Name == x.to
		if !goes {
			c.kept = append(c.kept, y)
		} else if x.kind == "rename" {
			c.plainRenamed(y, x.to)
		}
	}
	switch {
	case x.kind == "add" && len(c.kept) == 65535:
		return plainChange{}, api.ErrMany
	case x.kind == "add":
		c.fresh, c.record, c.local, c.packed = true, x.record, x.record.Local, x.packed
	case x.kind == "note":
		c.comment = x.comment
	case x.kind != "compact" && !there:
		return plainChange{}, api.ErrAbsent
	case x.kind == "rename" && taken:
		return plainChange{}, api.ErrTaken
	}
	return c, api.OK
}

// plainPlan is what a call answers.
func plainPlan(file string, a api.Archive, x ask) (api.Plan, api.Errno) {
	c, e := plainChangeOf(file, a, x)
	if e != api.OK {
		return api.Plan{}, e
	}
	if x.kind == "compact" && a.Size == c.tight() {
		return api.Plan{Size: a.Size}, api.OK
	}
	return c.settled(x.capacity, x.kind == "compact")
}
