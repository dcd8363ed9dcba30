package mend

import (
	"valise/api"
	"valise/layout"
	"valise/record"
	"valise/texts"
)

// report is what has been found so far, in the order in which it is told.
type report struct{ findings []api.Finding }

// say adds what is wrong at a place, and with which entry.
func (r *report) say(code api.Errno, at int, name string) {
	r.findings = append(r.findings, api.Finding{Code: code, At: at, Name: name})
}

// content says what is wrong with a content of at least one byte.
func (r *report) content(content []byte) {
	end, e := layout.FindEnd(content)
	if e != api.OK {
		r.say(api.ErrLayEnd, 0, "")
		return
	}
	x, _, _ := record.GetEnd(content, end)
	if x.Disk != 0 || x.DirDisk != 0 || x.Here != x.Total {
		r.say(api.ErrLayDisk, end, "")
	}
	if x.DirAt+x.DirSize != end {
		r.say(api.ErrLayDir, end, "")
	}
	list, stop := standing(content[:end], x.DirAt)
	if stop != end || len(list) != x.Total {
		r.say(api.ErrLayDir, stop, "")
	}
	r.entries(list, content[:min(x.DirAt, end)]) // a directory that would begin behind the end has no records
}

// standing tells the records that stand in a file one behind the other from a place on, and where the last one ends.
func standing(file []byte, at int) (list []placed, stop int) {
	for {
		c, next, e := record.GetCentral(file, at)
		if e != api.OK {
			return list, at
		}
		list = append(list, placed{Central: c, place: at})
		at = next
	}
}

// entries says what is wrong with the entries of these records, in the bytes ahead of their directory.
func (r *report) entries(list []placed, ahead []byte) {
	looks := looksInto(ahead)
	packed := texts.Of(ahead)
	var sound []placed
	for _, x := range list {
		if !r.form(&x, looks) {
			continue
		}
		sound = append(sound, x)
		if !packed.Hold(x.Local, x.data) {
			r.say(api.ErrDamaged, x.At, x.Name)
		}
	}
	had := newCover(len(ahead))
	for _, x := range sound {
		if !had.add(x.At, x.to) {
			r.say(api.ErrLayOverlap, x.At, x.Name)
		}
	}
}

// form says what is wrong with a record and what stands with it, and tells whether it is sound in form.
func (r *report) form(x *placed, looks []look) bool {
	sound := true
	for _, l := range looks {
		if l.right(x) {
			continue
		}
		sound = false
		at := x.place
		if l.atEntry {
			at = x.At
		}
		r.say(l.code, at, x.Name)
	}
	return sound
}
