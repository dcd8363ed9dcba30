// Package extent: what a directory's record says of an entry, and whether that stands in the file: layout and mend stand on it. What is right is said in doc/13-layout.md; it has no chapter.
package extent

import (
	"valise/api"
	"valise/record"
)

const (
	lateFlag   = 8                        // a descriptor stands behind the packed bytes
	knownFlags = 2 | 4 | lateFlag | 1<<11 // how hard was packed; told late; the name is UTF-8
)

// IsLate tells whether an entry's sum and sizes stand behind its packed bytes.
func IsLate(l api.Local) bool { return l.Flags&lateFlag != 0 }

// RightCore tells whether an entry is of the kinds that are read here.
func RightCore(c api.Central) bool {
	if c.Disk != 0 || c.Flags&^knownFlags != 0 || c.Need != 10 && c.Need != 20 {
		return false
	}
	stored := c.Method == api.MethodStore && c.Packed == c.Size
	if !stored && c.Method != api.MethodDeflate {
		return false
	}
	_, e := record.SplitExtra(c.Extra)
	return e == api.OK
}

// Finder finds entries in the bytes ahead of their directory.
type Finder struct {
	ahead  []byte
	extras map[int]api.Errno // of the local headers that were asked, by their places, why their extra texts may not be: thousands of records may lead to one, and it may have thousands of fields
}

// In tells the finder of entries in these bytes.
func In(ahead []byte) Finder { return Finder{ahead, map[int]api.Errno{}} }

// Find tells the entry of a record, if all that the record says stands there.
func (f Finder) Find(c api.Central) (api.Entry, bool) {
	l, data, e := record.GetLocal(f.ahead, c.At)
	if e != api.OK || !agree(l, c.Local) || f.extra(c.At, l.Extra) != api.OK || data+c.Packed > len(f.ahead) {
		return api.Entry{}, false
	}
	x := api.Entry{Central: c, LocalExtra: l.Extra, From: c.At, Data: data, To: data + c.Packed}
	if IsLate(c.Local) {
		n, e := record.GetDescriptor(f.ahead, x.To, c.Local)
		if e != api.OK {
			return api.Entry{}, false
		}
		x.To += n
	}
	return x, true
}

// extra tells why the extra text of the local header at a place may not be.
func (f Finder) extra(at int, text string) api.Errno {
	e, known := f.extras[at]
	if !known {
		_, e = record.SplitExtra(text)
		f.extras[at] = e
	}
	return e
}

// agree tells whether a local header may stand with what the directory says of its entry, but for its extra text.
func agree(l, told api.Local) bool {
	l.Extra = told.Extra
	if IsLate(told) && l.Sum == 0 && l.Packed == 0 && l.Size == 0 {
		l.Sum, l.Packed, l.Size = told.Sum, told.Packed, told.Size
	}
	return l == told
}
