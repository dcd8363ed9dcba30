package valise

import (
	"valise/api"
	"valise/plan"
)

// Add puts an entry, in the place of the one of its name, if there is one.
func (v *Valise) Add(name string, data []byte, how api.How) error {
	return fault("add", name, v.change(func(c content) (api.Plan, api.Errno) { return c.add(name, data, how) }))
}

// Delete removes an entry.
func (v *Valise) Delete(name string) error {
	return fault("delete", name, v.change(func(c content) (api.Plan, api.Errno) { return c.remove(name) }))
}

// Rename gives an entry another name.
func (v *Valise) Rename(from, to string) error {
	return fault("rename", from, v.change(func(c content) (api.Plan, api.Errno) { return c.rename(from, to) }))
}

// SetNote gives the archive another comment.
func (v *Valise) SetNote(note string) error {
	return fault("setnote", "", v.change(func(c content) (api.Plan, api.Errno) { return plan.Note(c.file, c.archive, note, c.room) }))
}

// Compact removes all gaps.
func (v *Valise) Compact() error {
	return fault("compact", "", v.change(func(c content) (api.Plan, api.Errno) { return plan.Compact(c.file, c.archive, c.room) }))
}

// change lets a change be planned, and carries it out.
func (v *Valise) change(planned func(content) (api.Plan, api.Errno)) api.Errno {
	c, e := v.content()
	if e != api.OK {
		return e
	}
	p, e := planned(c)
	if e != api.OK {
		return e
	}
	return v.store.Apply(p)
}

// Batch makes all changes at one stroke, or none.
func (v *Valise) Batch(steps ...api.Step) error {
	first, e := v.content()
	if e != api.OK {
		return fault("batch", "", e)
	}
	last := first
	last.room = api.MaxCapacity // what lies between the first content and the last one is never on the disk
	for _, s := range steps {
		p, e := last.step(s)
		if e != api.OK {
			return fault("batch", s.Name, e)
		}
		last = last.behind(p)
	}
	p := api.Plan{Size: len(last.file), Writes: plan.Diff(first.file, last.file)}
	return fault("batch", "", v.store.Apply(p)) // which does nothing where the last content is the first one
}
