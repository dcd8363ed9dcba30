package store

import (
	"bytes"

	"valise/api"
	"valise/journal"
	"valise/layout"
)

// Apply carries a plan out at one stroke.
func (s *Store) Apply(p api.Plan) api.Errno {
	if s == nil {
		return api.ErrArg
	}
	s.guard.Lock()
	defer s.guard.Unlock()
	if !s.disk.Alive() {
		return api.ErrDiskPower
	}
	content := s.disk.Image()
	next, archive, ok := outcome(content, p)
	if !ok {
		return api.ErrPlan
	}
	if bytes.Equal(next, content) {
		return api.OK
	}
	if need, e := journal.Need(len(content), p.Size, p.Writes); e != api.OK || need > s.disk.Capacity() {
		return api.ErrFull
	}
	return s.update(p, archive)
}

// outcome tells the content that a plan leads to, and the archive in it; or that the plan leads to none from which it could be opened again.
func outcome(content []byte, p api.Plan) ([]byte, api.Archive, bool) {
	next, e := journal.Apply(content, p.Size, p.Writes)
	if e != api.OK {
		return nil, api.Archive{}, false
	}
	archive, e := layout.Parse(next)
	return next, archive, e == api.OK && journal.Quiet(next)
}

// update makes the update of a plan that leads to this archive. The archive is taken over only behind it: a dead store tells the one that its last good Apply has left.
func (s *Store) update(p api.Plan, archive api.Archive) api.Errno {
	s.count++
	if e := journal.Update(s.disk, int(s.count), p.Size, p.Writes); e != api.OK {
		return e
	}
	s.archive = archive
	return api.OK
}
