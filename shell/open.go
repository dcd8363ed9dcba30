package shell

import (
	"valise/api"
	"valise/valise"
)

// open opens the archive on the disk.
func (s *session) open(o order) (string, error) {
	var options api.Options
	if len(o.numbers) > 0 {
		options = api.Options{MaxEntries: o.numbers[0], MaxData: o.numbers[1]}
	}
	v, err := valise.Open(s.disk, options)
	if err != nil {
		return "", err
	}
	s.archive = v
	found := v.Found()
	return okLine(found.State, found.Size), nil
}

// shut closes the archive, and ends a batch with it.
func (s *session) shut(order) (string, error) {
	if err := s.archive.Close(); err != nil {
		return "", err
	}
	*s = session{disk: s.disk}
	return okLine(), nil
}

// fuse lets the power fail behind so many changing calls.
func (s *session) fuse(o order) (string, error) {
	s.disk.Fuse(o.numbers[0])
	return okLine(), nil
}

// crash lets the disk crash; from then on it is the one that is found.
func (s *session) crash(o order) (string, error) {
	found, e := s.disk.Crash(api.Choice{Size: o.numbers[0], Rest: o.numbers[1], Sectors: o.numbers[2:]})
	if e != api.OK {
		return "", e
	}
	*s = session{disk: found}
	return okLine(found.Size()), nil
}

// state tells how the disk is.
func (s *session) state(order) (string, error) {
	life := 0
	if s.disk.Alive() {
		life = 1
	}
	return okLine(s.disk.Size(), s.disk.Calls(), life), nil
}
