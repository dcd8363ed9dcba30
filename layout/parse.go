package layout

import (
	"valise/api"
	"valise/extent"
	"valise/record"
)

// Parse tells the archive that a file's bytes are.
func Parse(file []byte) (api.Archive, api.Errno) {
	if len(file) == 0 {
		return api.Archive{}, api.OK
	}
	end, e := FindEnd(file)
	if e != api.OK {
		return api.Archive{}, e
	}
	x, _, _ := record.GetEnd(file, end)
	entries, e := listed(file[:end], x)
	if e != api.OK {
		return api.Archive{}, e
	}
	if e := settleAll(entries, file[:x.DirAt]); e != api.OK {
		return api.Archive{}, e
	}
	a := api.Archive{Entries: entries, DirAt: x.DirAt, Size: len(file), Comment: x.Comment}
	if overlap(Extents(a)) {
		return api.Archive{}, api.ErrLayOverlap
	}
	return a, api.OK
}

// listed tells the entries of a directory that ends where file ends, each with its record alone.
func listed(file []byte, x api.End) ([]api.Entry, api.Errno) {
	if x.Disk != 0 || x.DirDisk != 0 || x.Here != x.Total {
		return nil, api.ErrLayDisk
	}
	if x.DirAt+x.DirSize != len(file) {
		return nil, api.ErrLayDir
	}
	var entries []api.Entry
	at := x.DirAt
	for range x.Total {
		c, next, e := record.GetCentral(file, at)
		if e != api.OK {
			return nil, api.ErrLayDir
		}
		entries = append(entries, api.Entry{Central: c})
		at = next
	}
	if at != len(file) {
		return nil, api.ErrLayDir
	}
	return entries, api.OK
}

// settleAll finds the entries in the bytes ahead of their directory.
func settleAll(entries []api.Entry, ahead []byte) api.Errno {
	taken, finder := names{}, extent.In(ahead)
	room := len(ahead)
	for i := range entries {
		if e := taken.take(entries[i].Central); e != api.OK {
			return e
		}
		x, there := finder.Find(entries[i].Central)
		if !there {
			return api.ErrLayLocal
		}
		room -= extentBytes(&x)
		if room < 0 { // some overlap, so no entry will be told: that text is let go, for it could be the same bytes in every entry
			x.LocalExtra = ""
		}
		entries[i] = x
	}
	return api.OK
}
