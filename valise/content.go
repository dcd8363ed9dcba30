package valise

import (
	"valise/api"
	"valise/deflate"
	"valise/field"
	"valise/journal"
	"valise/layout"
	"valise/plan"
	"valise/record"
)

const (
	maxMode = 65535
	maxText = 65535 // its length stands in 16 bits

	madeHere   = unix*madeUnit + 20 // by the version 2.0 of the format
	needStore  = 10
	needPacked = 20
	wideFlag   = 2048 // the name and the note are UTF-8
	pastASCII  = 128  // from this byte on a text is more than ASCII
)

// content: an archive's bytes and what they hold; how much room a change of them has, and what it may add.
type content struct {
	file    []byte
	archive api.Archive
	room    int
	options api.Options
}

// content tells the archive as it stands on the disk.
func (v *Valise) content() (content, api.Errno) {
	if e := v.refusal(); e != api.OK {
		return content{}, e
	}
	file, e := v.store.Image()
	if e != api.OK {
		return content{}, e
	}
	return content{file: file, archive: v.store.Archive(), room: v.store.Capacity(), options: v.options}, api.OK
}

// behind tells the content that a plan leads to. A plan is for just the content that it was made of, and reads back: neither call refuses.
func (c content) behind(p api.Plan) content {
	c.file, _ = journal.Apply(c.file, p.Size, p.Writes)
	c.archive, _ = layout.Parse(c.file)
	return c
}

// add plans an entry, in the place of the one of its name, if there is one.
func (c content) add(name string, data []byte, how api.How) (api.Plan, api.Errno) {
	r, e := described(name, how)
	if e != api.OK {
		return api.Plan{}, e
	}
	if e := c.admits(name, len(data)); e != api.OK {
		return api.Plan{}, e
	}
	packed := data
	if how.Method == api.MethodDeflate {
		packed, _ = deflate.Deflate(data, how.Level) // never refused: the level was asked, and the text is not too long
	}
	r.Sum, r.Packed, r.Size = field.Sum(data), len(packed), len(data)
	return plan.Add(c.file, c.archive, r, packed, c.room)
}

// admits tells whether the options let an entry of that name have so many bytes. One that takes another one's place makes the archive no greater, however many entries it has.
func (c content) admits(name string, size int) api.Errno {
	entries := 0
	if position(c.archive.Entries, name) < 0 {
		entries = len(c.archive.Entries) + 1
	}
	return plan.Limits(entries, size, c.options)
}

// described tells the record of an entry that is to be added, without what its text says.
func described(name string, how api.How) (api.Central, api.Errno) {
	if !mayBe(how) {
		return api.Central{}, api.ErrArg
	}
	date, clock, e := record.PackStamp(how.Stamp)
	if e != api.OK {
		return api.Central{}, e
	}
	if e := record.CheckName(name); e != api.OK {
		return api.Central{}, e
	}
	l := api.Local{Need: needStore, Method: how.Method, Clock: clock, Date: date, Name: name}
	if how.Method == api.MethodDeflate {
		l.Need = needPacked
	}
	if isWide(name) || isWide(how.Note) {
		l.Flags = wideFlag
	}
	return api.Central{Local: l, Made: madeHere, External: how.Mode * modeUnit, Comment: how.Note}, api.OK
}

// mayBe tells whether an entry may be added so, but for its time.
func mayBe(how api.How) bool {
	return (how.Method == api.MethodStore || how.Method == api.MethodDeflate) &&
		how.Level >= 0 && how.Level <= api.MaxLevel &&
		how.Mode >= 0 && how.Mode <= maxMode &&
		len(how.Note) <= maxText
}

// isWide tells whether a text is more than ASCII.
func isWide(text string) bool {
	for i := range len(text) { // by bytes: a note may be no UTF-8
		if text[i] >= pastASCII {
			return true
		}
	}
	return false
}

// remove plans that an entry goes.
func (c content) remove(name string) (api.Plan, api.Errno) {
	return plan.Delete(c.file, c.archive, name, c.room)
}

// rename plans that an entry gets another name.
func (c content) rename(from, to string) (api.Plan, api.Errno) {
	return plan.Rename(c.file, c.archive, from, to, c.room)
}

// step plans one change of a batch.
func (c content) step(s api.Step) (api.Plan, api.Errno) {
	switch s.Kind {
	case api.StepAdd:
		return c.add(s.Name, s.Data, s.How)
	case api.StepDelete:
		return c.remove(s.Name)
	case api.StepRename:
		return c.rename(s.Name, s.To)
	}
	return api.Plan{}, api.ErrArg
}
