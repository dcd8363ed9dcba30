package journal

import (
	"valise/api"
	"valise/disk"
)

// stroke: an update under way.
type stroke struct {
	frame
	disk   *disk.Disk
	seal   api.Seal // its state is what the last step has said
	body   []byte
	writes []api.Write
}

// run goes through the steps of an update. Each makes what it wrote durable, so that a crash can leave a choice of one step alone.
func (s *stroke) run() api.Errno {
	for _, step := range []func() api.Errno{s.claim, s.save, s.arm, s.write, s.finish, s.cut} {
		if e := step(); e != api.OK {
			return e
		}
	}
	return api.OK
}

// claim says how long the old content is, ahead of all else that is put behind it. The zeros behind the seal bring the file to the size by which the seal is known.
func (s *stroke) claim() api.Errno {
	return s.stamp(api.StateClaimed, s.file-s.sealAt-api.SectorSize)
}

// save puts the old bytes behind the content.
func (s *stroke) save() api.Errno {
	if len(s.body) == 0 {
		return put(s.disk, nil)
	}
	return put(s.disk, []api.Write{{At: s.bodyAt, Data: s.body}})
}

// arm says that the old bytes are safe, and may be written over.
func (s *stroke) arm() api.Errno { return s.stamp(api.StateArmed, 0) }

// write puts the new bytes into the content.
func (s *stroke) write() api.Errno { return put(s.disk, s.writes) }

// finish says that the new bytes are safe.
func (s *stroke) finish() api.Errno { return s.stamp(api.StateDone, 0) }

// cut takes the journal away.
func (s *stroke) cut() api.Errno { return cut(s.disk, s.seal.New) }

// stamp puts the seal of a state into its place, and so many zeros behind it.
func (s *stroke) stamp(state, zeros int) api.Errno {
	s.seal.State = state
	sector := append(sectorOf(s.seal), make([]byte, zeros)...)
	return put(s.disk, []api.Write{{At: s.sealAt, Data: sector}})
}

// put makes all the writes, and then makes them durable.
func put(d *disk.Disk, writes []api.Write) api.Errno {
	for _, w := range writes {
		if e := d.WriteAt(w.At, w.Data); e != api.OK {
			return e
		}
	}
	return d.Sync()
}

// cut gives the file a size, and makes it durable.
func cut(d *disk.Disk, size int) api.Errno {
	if e := d.Truncate(size); e != api.OK {
		return e
	}
	return d.Sync()
}
