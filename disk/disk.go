// Package disk: a stand-in for one file on a disk whose power may fail: see doc/01-disk.md.
package disk

import (
	"slices"

	"valise/api"
)

// Disk is one file of a fixed capacity.
type Disk struct {
	capacity int
	now      []byte            // what a read sees
	durable  []byte            // what now was at the last Sync
	pieces   map[int][]stretch // by sector: what was laid down since the last Sync, in its order
	sizes    []int             // the size changes since the last Sync, in their order
	calls    int
	dead     bool
	fused    bool
	left     int // how many changing calls the fuse still lets through
}

// New makes a disk of that capacity whose file holds the image, as if it had been synced.
func New(image []byte, capacity int) (*Disk, api.Errno) {
	if capacity < 0 || capacity > api.MaxCapacity {
		return nil, api.ErrArg
	}
	if len(image) > capacity {
		return nil, api.ErrDiskFull
	}
	return &Disk{
		capacity: capacity,
		now:      slices.Clone(image),
		durable:  slices.Clone(image),
		pieces:   map[int][]stretch{},
	}, api.OK
}

// Capacity tells how many bytes the file may have.
func (d *Disk) Capacity() int {
	if d == nil {
		return 0
	}
	return d.capacity
}

// Size tells how many bytes the file has now.
func (d *Disk) Size() int {
	if d == nil {
		return 0
	}
	return len(d.now)
}

// Calls tells how many changing calls (WriteAt, Truncate, Sync) have been carried out.
func (d *Disk) Calls() int {
	if d == nil {
		return 0
	}
	return d.calls
}

// Alive tells whether the power is on.
func (d *Disk) Alive() bool { return d != nil && !d.dead }

// Image tells the file's bytes as they read now (of a dead disk: as they read last).
func (d *Disk) Image() []byte {
	if d == nil {
		return nil
	}
	return slices.Clone(d.now)
}

// ReadAt reads n bytes from off on.
func (d *Disk) ReadAt(off, n int) ([]byte, api.Errno) {
	if e := d.ready(); e != api.OK {
		return nil, e
	}
	if off < 0 || n < 0 {
		return nil, api.ErrArg
	}
	if beyond(off, n, len(d.now)) {
		return nil, api.ErrDiskRange
	}
	return slices.Clone(d.now[off : off+n]), api.OK
}

// WriteAt writes the bytes from off on; the file grows where it must.
func (d *Disk) WriteAt(off int, data []byte) api.Errno {
	if e := d.ready(); e != api.OK {
		return e
	}
	if off < 0 {
		return api.ErrArg
	}
	if beyond(off, len(data), d.capacity) {
		return api.ErrDiskFull
	}
	if e := d.spend(); e != api.OK || len(data) == 0 {
		return e
	}
	from := min(off, len(d.now))
	d.lay(stretch{at: from, zeros: off - from, data: slices.Clone(data)})
	return api.OK
}

// Truncate gives the file that size.
func (d *Disk) Truncate(size int) api.Errno {
	if e := d.ready(); e != api.OK {
		return e
	}
	if size < 0 {
		return api.ErrArg
	}
	if size > d.capacity {
		return api.ErrDiskFull
	}
	if e := d.spend(); e != api.OK {
		return e
	}
	if have := len(d.now); size > have {
		d.lay(stretch{at: have, zeros: size - have})
	} else if size < have {
		d.resize(size)
	}
	return api.OK
}

// Sync makes all that was changed outlast a crash.
func (d *Disk) Sync() api.Errno {
	if e := d.ready(); e != api.OK {
		return e
	}
	if e := d.spend(); e != api.OK {
		return e
	}
	d.settle()
	return api.OK
}

// Fuse lets the power fail at the n-th changing call from now (0: at the next one; below 0: never).
func (d *Disk) Fuse(n int) {
	if !d.Alive() {
		return
	}
	d.fused, d.left = n >= 0, max(n, 0)
}

// Crash ends d, and tells the disk that is found when the power comes back.
func (d *Disk) Crash(c api.Choice) (*Disk, api.Errno) {
	if d == nil {
		return nil, api.ErrArg
	}
	d.dead = true
	return New(d.outcome(c), d.capacity)
}

// ready tells the errors that come ahead of a look at the arguments.
func (d *Disk) ready() api.Errno {
	if d == nil {
		return api.ErrArg
	}
	if d.dead {
		return api.ErrDiskPower
	}
	return api.OK
}

// beyond tells whether n bytes from off on, neither below 0, end behind the limit. It forms no sum, which could wrap round.
func beyond(off, n, limit int) bool { return off > limit || n > limit-off }

// spend counts a changing call whose arguments are good, or lets the power fail at it.
func (d *Disk) spend() api.Errno {
	if d.fused && d.left == 0 {
		d.dead = true
		return api.ErrDiskPower
	}
	if d.fused {
		d.left--
	}
	d.calls++
	return api.OK
}

// lay lays a stretch down that begins within the file or right behind it.
func (d *Disk) lay(s stretch) {
	if s.end() > len(d.now) {
		d.resize(s.end())
	}
	s.paint(d.now)
	for at := s.at; at < s.end(); {
		sector := at / api.SectorSize
		next := min((sector+1)*api.SectorSize, s.end())
		d.pieces[sector] = append(d.pieces[sector], s.part(at, next))
		at = next
	}
}

// resize gives the bytes now another size, and notes the size change.
func (d *Disk) resize(size int) {
	d.now = resized(d.now, size)
	d.sizes = append(d.sizes, size)
}

// settle makes the bytes now durable. Below the new size the two differ in sectors with pieces alone (where a file was cut and grew again, the zeros are pieces too), so no others are copied: a Sync costs what was changed, not what the file holds.
func (d *Disk) settle() {
	size := len(d.now)
	d.durable = resized(d.durable, size)
	for sector := range d.pieces {
		from := min(sector*api.SectorSize, size)
		to := min(from+api.SectorSize, size)
		copy(d.durable[from:to], d.now[from:to])
	}
	d.pieces = map[int][]stretch{}
	d.sizes = nil
}

// outcome tells the bytes that a crash leaves.
func (d *Disk) outcome(c api.Choice) []byte {
	file := make([]byte, d.sizeBehind(c.Size))
	copy(file, d.durable)
	for sector := 0; sector*api.SectorSize < len(file); sector++ {
		wanted := c.Rest
		if sector < len(c.Sectors) {
			wanted = c.Sectors[sector]
		}
		pieces := d.pieces[sector]
		for _, p := range pieces[:kept(wanted, len(pieces))] {
			p.paint(file)
		}
	}
	return file
}

// sizeBehind tells the size that a crash leaves which keeps so many size changes.
func (d *Disk) sizeBehind(changes int) int {
	if n := kept(changes, len(d.sizes)); n > 0 {
		return d.sizes[n-1]
	}
	return len(d.durable)
}
