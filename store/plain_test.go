package store_test

import (
	"valise/api"
	"valise/disk"
	"valise/journal"
	"valise/layout"
)

// What stands here is the chapter word for word, over a disk of its own, with no thought of cost.

// plainStore is a store: all that was done to its disk, and the archive that the last good call has left.
type plainStore struct {
	disk    *disk.Disk
	found   api.Verdict
	archive api.Archive
	count   int
}

// plainOpen is P16.1 and P16.2.
func plainOpen(d *disk.Disk) (*plainStore, api.Errno) {
	if d == nil {
		return nil, api.ErrArg
	}
	if !d.Alive() {
		return nil, api.ErrDiskPower
	}
	v, content := journal.Look(d.Image())
	a, e := layout.Parse(content)
	if e != api.OK && v.State == api.StateNone {
		return nil, e
	}
	if e != api.OK {
		return nil, api.ErrSpoilt
	}
	if v.State != api.StateNone && !journal.Quiet(content) {
		return nil, api.ErrSpoilt
	}
	if v.State != api.StateNone {
		if _, e := journal.Recover(d); e != api.OK {
			return nil, api.ErrDiskPower
		}
	}
	return &plainStore{disk: d, found: v, archive: a}, api.OK
}

// image is P16.4.
func (s *plainStore) image() (string, api.Errno) {
	if !s.disk.Alive() {
		return "", api.ErrDiskPower
	}
	return string(s.disk.Image()), api.OK
}

// bytes is P16.5.
func (s *plainStore) bytes(name string) (string, api.Errno) {
	content, e := s.image()
	if e != api.OK {
		return "", e
	}
	for _, x := range s.archive.Entries {
		if x.Name == name {
			return content[x.Data : x.Data+x.Packed], api.OK
		}
	}
	return "", api.ErrAbsent
}

// apply is P16.6 and P16.7.
func (s *plainStore) apply(p api.Plan) api.Errno {
	content, e := s.image()
	if e != api.OK {
		return e
	}
	next, e := journal.Apply([]byte(content), p.Size, p.Writes)
	if e != api.OK {
		return api.ErrPlan
	}
	a, e := layout.Parse(next)
	if e != api.OK || !journal.Quiet(next) {
		return api.ErrPlan
	}
	if string(next) == content {
		return api.OK
	}
	if n, _ := journal.Need(len(content), p.Size, p.Writes); n > s.disk.Capacity() {
		return api.ErrFull
	}
	s.count++
	if e := journal.Update(s.disk, s.count%4294967296, p.Size, p.Writes); e != api.OK {
		return e
	}
	s.archive = a
	return api.OK
}
