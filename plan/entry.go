package plan

import (
	"valise/api"
	"valise/record"
)

const (
	lateFlag   = 8                // a descriptor stands behind the packed bytes
	wideFlag   = 2048             // the name and the comment are UTF-8
	addedFlags = 2 | 4 | wideFlag // of an entry that is added: how hard was packed, UTF-8
	pastASCII  = 0x80             // from this byte on a text is more than ASCII
)

// mayBeAdded tells whether a record, but for its name, may be an added entry's.
func mayBeAdded(c api.Central) bool {
	if c.Disk != 0 || c.Flags&^addedFlags != 0 || c.Need != 10 && c.Need != 20 {
		return false
	}
	stored := c.Method == api.MethodStore && c.Packed == c.Size
	if !stored && c.Method != api.MethodDeflate {
		return false
	}
	if _, e := record.SplitExtra(c.Extra); e != api.OK {
		return false
	}
	c.Name, c.At = "", 0 // the name has an error of its own, and the place doesn't count
	_, e := record.PutCentral(c)
	return e == api.OK
}

// renamed tells an entry's record under another name. It has no descriptor any more: the local header is written anew, and says all.
func renamed(c api.Central, to string) api.Central {
	c.Name = to
	c.Flags &^= lateFlag | wideFlag
	if isWide(to) || isWide(c.Comment) {
		c.Flags |= wideFlag
	}
	return c
}

// isWide tells whether a text is more than ASCII.
func isWide(text string) bool {
	for i := range len(text) { // by bytes: a record's comment may be no UTF-8
		if text[i] >= pastASCII {
			return true
		}
	}
	return false
}

// laidAt tells an entry as it is when its extent begins at a place.
func laidAt(x api.Entry, at int) api.Entry {
	header, extent := x.Data-x.From, x.To-x.From
	x.At, x.From, x.Data, x.To = at, at, at+header, at+extent
	return x
}

// lastEnd tells where the entry ends that ends last (0, if there is none).
func lastEnd(entries []api.Entry) int {
	end := 0
	for i := range entries {
		end = max(end, entries[i].To)
	}
	return end
}
