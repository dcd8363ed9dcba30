package plan

import (
	"slices"

	"valise/api"
	"valise/layout"
)

// draft: a plan that may yet be refused, and the archive that should be read behind it.
type draft struct {
	api.Plan
	next api.Archive
}

// inPlace drafts the change with the kept entries where they are.
func (c *change) inPlace() draft {
	at := c.freePlace()
	next, directory := c.joined(c.kept, at)
	writes := []api.Write{{At: at, Data: c.extent}, {At: next.DirAt, Data: directory}}
	if at+len(c.extent) == next.DirAt {
		writes = []api.Write{{At: at, Data: slices.Concat(c.extent, directory)}}
	}
	return draft{Plan: api.Plan{Writes: writes, Size: next.Size}, next: next}
}

// freePlace tells where the new entry is laid among the kept ones; where there is no new one, the end of the last.
func (c *change) freePlace() int {
	end := lastEnd(c.kept)
	if len(c.fresh) == 0 {
		return end
	}
	gaps := layout.Gaps(api.Archive{Entries: c.kept, DirAt: end})
	if at := Fit(gaps, len(c.extent)); at >= 0 {
		return at
	}
	return end
}

// moved drafts the change with the kept entries one behind the other. Those ahead of the first gap are not written: they stand already where they are to stand.
func (c *change) moved() draft {
	entries := slices.Clone(c.kept)
	var data []byte
	stay, end := 0, 0
	for _, i := range byPlace(c.kept) {
		x := c.kept[i]
		entries[i] = laidAt(x, end)
		end = entries[i].To
		if x.From == entries[i].From { // behind a gap this never holds again
			stay = end
		} else {
			data = append(data, c.file[x.From:x.To]...)
		}
	}
	next, directory := c.joined(entries, end)
	data = slices.Concat(data, c.extent, directory)
	return draft{Plan: api.Plan{Writes: []api.Write{{At: stay, Data: data}}, Size: next.Size, Moves: true}, next: next}
}

// joined tells the archive of the kept entries, as they are laid, with the new one at a place, and the bytes of its directory and end record.
func (c *change) joined(kept []api.Entry, at int) (api.Archive, []byte) {
	entries := kept[:len(kept):len(kept)] // cut, so that adding to it makes new memory: the other way of planning begins with the same list
	for _, x := range c.fresh {
		entries = append(entries, laidAt(x, at))
	}
	var records []api.Central
	for i := range entries {
		records = append(records, entries[i].Central)
	}
	next := api.Archive{Entries: entries, DirAt: lastEnd(entries), Comment: c.comment}
	directory, _ := layout.Directory(records, next.DirAt, c.comment) // never refused: each record was asked ahead, or was read, and there are not too many
	next.Size = next.DirAt + len(directory)
	return next, directory
}
