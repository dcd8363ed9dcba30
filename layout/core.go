package layout

import (
	"valise/api"
	"valise/record"
)

const (
	lateFlag   = 8                        // a descriptor stands behind the packed bytes
	knownFlags = 2 | 4 | lateFlag | 1<<11 // how hard was packed; told late; the name is UTF-8
)

// isLate tells whether an entry's sum and sizes stand behind its packed bytes.
func isLate(l api.Local) bool { return l.Flags&lateFlag != 0 }

// rightCore tells whether an entry is of the kinds that are read here.
func rightCore(c api.Central) bool {
	if c.Disk != 0 || c.Flags&^knownFlags != 0 || c.Need != 10 && c.Need != 20 {
		return false
	}
	stored := c.Method == api.MethodStore && c.Packed == c.Size
	if !stored && c.Method != api.MethodDeflate {
		return false
	}
	_, e := record.SplitExtra(c.Extra)
	return e == api.OK
}

// names are those of the entries that have been looked at.
type names map[string]struct{}

// take tells why an entry's record may not stand behind those of these names; where it may, its name is one of them from then on.
func (n names) take(c api.Central) api.Errno {
	if !rightCore(c) {
		return api.ErrLayEntry
	}
	if record.CheckName(c.Name) != api.OK {
		return api.ErrLayName
	}
	if _, there := n[c.Name]; there {
		return api.ErrLayTwice
	}
	n[c.Name] = struct{}{}
	return api.OK
}
