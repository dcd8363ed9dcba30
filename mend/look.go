package mend

import (
	"valise/api"
	"valise/extent"
	"valise/record"
)

// placed is a directory's record and where it stands; of one whose local header is right also where its packed bytes begin, and where its extent ends.
type placed struct {
	api.Central
	place    int
	data, to int
}

// look is what is asked of each record, and what is wrong with one of which it isn't so.
type look struct {
	code    api.Errno
	right   func(*placed) bool
	atEntry bool // that is told of where the entry stands, not of where its record does
}

// directory is what the looks at its records go by.
type directory struct {
	names  map[string]struct{} // of the records that have been looked at
	finder extent.Finder
}

// looksInto tells the looks at the records of a directory that stands behind these bytes.
func looksInto(ahead []byte) []look {
	d := directory{map[string]struct{}{}, extent.In(ahead)}
	return []look{
		{code: api.ErrLayEntry, right: rightCore},
		{code: api.ErrLayName, right: rightName},
		{code: api.ErrLayTwice, right: d.firstOfName},
		{code: api.ErrLayLocal, right: d.stands, atEntry: true},
	}
}

func rightCore(x *placed) bool { return extent.RightCore(x.Central) }

func rightName(x *placed) bool { return record.CheckName(x.Name) == api.OK }

// firstOfName tells whether no record ahead has the same name.
func (d directory) firstOfName(x *placed) bool {
	_, there := d.names[x.Name]
	d.names[x.Name] = struct{}{}
	return !there
}

// stands tells whether what the record says of its entry stands in the file, and keeps where. The entry's extra text is let go: thousands of records may have the same one.
func (d directory) stands(x *placed) bool {
	found, ok := d.finder.Find(x.Central)
	x.data, x.to = found.Data, found.To
	return ok
}
