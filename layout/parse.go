package layout

import (
	"valise/api"
	"valise/record"
)

// Parse tells the archive that a file's bytes are.
func Parse(file []byte) (api.Archive, api.Errno) {
	if len(file) == 0 {
		return api.Archive{}, api.OK
	}
	end, e := FindEnd(file)
	if e != api.OK {
		return api.Archive{}, e
	}
	x, _, _ := record.GetEnd(file, end)
	entries, e := listed(file[:end], x)
	if e != api.OK {
		return api.Archive{}, e
	}
	if e := settleAll(entries, file[:x.DirAt]); e != api.OK {
		return api.Archive{}, e
	}
	a := api.Archive{Entries: entries, DirAt: x.DirAt, Size: len(file), Comment: x.Comment}
	if overlap(Extents(a)) {
		return api.Archive{}, api.ErrLayOverlap
	}
	return a, api.OK
}

// listed tells the entries of a directory that ends where file ends, each with its record alone.
func listed(file []byte, x api.End) ([]api.Entry, api.Errno) {
	if x.Disk != 0 || x.DirDisk != 0 || x.Here != x.Total {
		return nil, api.ErrLayDisk
	}
	if x.DirAt+x.DirSize != len(file) {
		return nil, api.ErrLayDir
	}
	var entries []api.Entry
	at := x.DirAt
	for range x.Total {
		c, next, e := record.GetCentral(file, at)
		if e != api.OK {
			return nil, api.ErrLayDir
		}
		entries = append(entries, api.Entry{Central: c})
		at = next
	}
	if at != len(file) {
		return nil, api.ErrLayDir
	}
	return entries, api.OK
}

// settleAll finds the entries in the bytes ahead of their directory.
func settleAll(entries []api.Entry, ahead []byte) api.Errno {
	taken := names{}
	room := len(ahead)
	for i := range entries {
		x := &entries[i]
		if e := taken.take(x.Central); e != api.OK {
			return e
		}
		if !settle(x, ahead) {
			return api.ErrLayLocal
		}
		room -= extentBytes(x)
		if room < 0 { // some overlap, so no entry will be told: that text is let go, for it could be the same bytes in every entry
			x.LocalExtra = ""
		}
	}
	return api.OK
}

// settle finds an entry's extent, and tells whether all that stands there is what its record says.
func settle(x *api.Entry, ahead []byte) bool {
	l, data, e := record.GetLocal(ahead, x.At)
	if e != api.OK || !agree(l, x.Local) || data+x.Packed > len(ahead) {
		return false
	}
	x.LocalExtra = l.Extra
	x.From, x.Data, x.To = x.At, data, data+x.Packed
	if !isLate(x.Local) {
		return true
	}
	n, e := record.GetDescriptor(ahead, x.To, x.Local)
	x.To += n
	return e == api.OK
}

// agree tells whether a local header may stand with what the directory says of its entry.
func agree(l, told api.Local) bool {
	if _, e := record.SplitExtra(l.Extra); e != api.OK {
		return false
	}
	l.Extra = told.Extra
	if isLate(told) && l.Sum == 0 && l.Packed == 0 && l.Size == 0 {
		l.Sum, l.Packed, l.Size = told.Sum, told.Packed, told.Size
	}
	return l == told
}
