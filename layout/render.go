package layout

import (
	"valise/api"
	"valise/extent"
	"valise/record"
)

// Directory tells the directory and the end record of an archive whose directory begins at a place.
func Directory(entries []api.Central, at int, comment string) ([]byte, api.Errno) {
	if at < 0 {
		return nil, api.ErrArg
	}
	var text []byte
	for _, c := range entries {
		b, e := record.PutCentral(c)
		if e != api.OK {
			return nil, e
		}
		text = append(text, b...)
	}
	n := len(entries)
	end, e := record.PutEnd(api.End{Here: n, Total: n, DirSize: len(text), DirAt: at, Comment: comment})
	if e != api.OK {
		return nil, e
	}
	return append(text, end...), api.OK
}

// Render tells an archive of these items, one behind the other, without gaps.
func Render(items []api.Item, comment string) ([]byte, api.Errno) {
	if !sizesHold(items, comment) {
		return nil, api.ErrArg
	}
	if e := check(items); e != api.OK {
		return nil, e
	}
	file, records, e := lay(items)
	if e != api.OK {
		return nil, e
	}
	directory, e := Directory(records, len(file), comment)
	if e != api.OK {
		return nil, e
	}
	file = append(file, directory...)
	if end, _ := FindEnd(file); end != len(file)-endBytes-len(comment) {
		return nil, api.ErrLayEnd
	}
	return file, api.OK
}

// sizesHold tells whether each item has as many bytes as it says, and the archive of all no more than a disk may have.
func sizesHold(items []api.Item, comment string) bool {
	n := endBytes + len(comment)
	for i := range items {
		x := &items[i]
		if x.Packed != len(x.Bytes) {
			return false
		}
		n += localBytes + centralBytes + len(x.Bytes) + len(x.Comment) + 2*len(x.Name) + 2*len(x.Extra)
	}
	return n <= api.MaxCapacity
}

// check tells why the first item that may not be laid down may not.
func check(items []api.Item) api.Errno {
	taken := names{}
	for i := range items {
		c := items[i].Central
		if extent.IsLate(c.Local) { // no descriptor is laid down
			return api.ErrLayEntry
		}
		if e := taken.take(c); e != api.OK {
			return e
		}
	}
	return api.OK
}

// lay puts the items one behind the other, and tells their bytes and their records for the directory.
func lay(items []api.Item) ([]byte, []api.Central, api.Errno) {
	var file []byte
	var records []api.Central
	for _, x := range items {
		header, e := record.PutLocal(x.Local)
		if e != api.OK {
			return nil, nil, e
		}
		x.At = len(file)
		records = append(records, x.Central)
		file = append(file, header...)
		file = append(file, x.Bytes...)
	}
	return file, records, api.OK
}
