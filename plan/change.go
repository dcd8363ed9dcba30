package plan

import (
	"slices"

	"valise/api"
	"valise/journal"
	"valise/layout"
	"valise/record"
)

// change: what an archive is to become, by whichever of the two ways of planning.
type change struct {
	file     []byte
	kept     []api.Entry // those that stay, in the directory's order
	fresh    []api.Entry // the new one, as it lies at the place 0; or none
	extent   []byte      // its bytes
	comment  string      // the new one
	capacity int
}

// belongs tells whether a file is an archive's.
func belongs(file []byte, a api.Archive) bool {
	b, e := layout.Parse(file)
	return e == api.OK && same(a, b)
}

// same tells whether two archives are alike in all.
func same(a, b api.Archive) bool {
	return slices.Equal(a.Entries, b.Entries) && a.DirAt == b.DirAt && a.Size == b.Size && a.Comment == b.Comment
}

// bring gives the change its new entry.
func (c *change) bring(r api.Central, localExtra string, packed []byte) {
	l := r.Local
	l.Extra = localExtra
	header, _ := record.PutLocal(l) // never refused: the record was asked ahead, or was read
	c.extent = slices.Concat(header, packed)
	c.fresh = []api.Entry{{Central: r, LocalExtra: localExtra, Data: len(header), To: len(c.extent)}}
}

// settle plans the change in place, or moved where that will not do.
func (c *change) settle() (api.Plan, api.Errno) {
	d := c.inPlace()
	if d.Size <= 2*layout.Tight(d.next.Entries, c.comment) && c.hasRoom(d) && c.readsBack(d) {
		return d.Plan, api.OK
	}
	return c.settleMoved()
}

// settleMoved plans the change moved.
func (c *change) settleMoved() (api.Plan, api.Errno) {
	d := c.moved()
	if d.Size > api.MaxCapacity {
		return api.Plan{}, api.ErrFull
	}
	if !c.readsBack(d) {
		return api.Plan{}, api.ErrNote
	}
	if !c.hasRoom(d) {
		return api.Plan{}, api.ErrFull
	}
	return d.Plan, api.OK
}

// hasRoom tells whether the draft's content and its journal fit.
func (c *change) hasRoom(d draft) bool {
	n, e := journal.Need(len(c.file), d.Size, d.Writes)
	return e == api.OK && n <= c.capacity
}

// readsBack tells whether the draft's content would be read as the archive that it should be, and not be taken for one with a journal. A long comment may have in it what looks like an end record, or like a seal.
func (c *change) readsBack(d draft) bool {
	content, e := journal.Apply(c.file, d.Size, d.Writes)
	return e == api.OK && journal.Quiet(content) && belongs(content, d.next)
}
