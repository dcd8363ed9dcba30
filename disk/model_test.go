package disk_test

import (
	"math"
	"math/rand"
	"testing"

	"valise/api"
	"valise/disk"
)

// model is the chapter's disk word for word, place by place, with no thought of cost.
type model struct {
	capacity, calls int
	now, durable    []byte
	pieces          map[int][]map[int]byte // by sector, each the bytes by their places
	sizes           []int
	dead            bool
	fuse            int // below 0: none
}

func newModel(image []byte, capacity int) *model {
	return &model{
		capacity: capacity,
		now:      append([]byte{}, image...),
		durable:  append([]byte{}, image...),
		pieces:   map[int][]map[int]byte{},
		fuse:     -1,
	}
}

func (m *model) carried() api.Errno {
	if m.fuse == 0 {
		m.dead = true
		return api.ErrDiskPower
	}
	if m.fuse > 0 {
		m.fuse--
	}
	m.calls++
	return api.OK
}

func (m *model) layDown(from int, data []byte) {
	one := map[int]map[int]byte{}
	for i, b := range data {
		place := from + i
		if one[place/512] == nil {
			one[place/512] = map[int]byte{}
		}
		one[place/512][place] = b
		if place < len(m.now) {
			m.now[place] = b
		} else {
			m.now = append(m.now, b)
		}
	}
	for sector, piece := range one {
		m.pieces[sector] = append(m.pieces[sector], piece)
	}
}

func (m *model) writeAt(off int, data []byte) api.Errno {
	switch {
	case m.dead:
		return api.ErrDiskPower
	case off < 0:
		return api.ErrArg
	case off > m.capacity || off+len(data) > m.capacity:
		return api.ErrDiskFull
	}
	if e := m.carried(); e != api.OK || len(data) == 0 {
		return e
	}
	before := len(m.now)
	if off > before {
		m.layDown(before, append(make([]byte, off-before), data...))
	} else {
		m.layDown(off, data)
	}
	if len(m.now) != before {
		m.sizes = append(m.sizes, len(m.now))
	}
	return api.OK
}

func (m *model) truncate(size int) api.Errno {
	switch {
	case m.dead:
		return api.ErrDiskPower
	case size < 0:
		return api.ErrArg
	case size > m.capacity:
		return api.ErrDiskFull
	}
	if e := m.carried(); e != api.OK || size == len(m.now) {
		return e
	}
	if size > len(m.now) {
		m.layDown(len(m.now), make([]byte, size-len(m.now)))
	} else {
		m.now = append([]byte{}, m.now[:size]...)
	}
	m.sizes = append(m.sizes, size)
	return api.OK
}

func (m *model) sync() api.Errno {
	if m.dead {
		return api.ErrDiskPower
	}
	if e := m.carried(); e != api.OK {
		return e
	}
	m.durable = append([]byte{}, m.now...)
	m.pieces = map[int][]map[int]byte{}
	m.sizes = nil
	return api.OK
}

func (m *model) byteAt(place, pieces int) byte {
	var b byte
	if place < len(m.durable) {
		b = m.durable[place]
	}
	for i, piece := range m.pieces[place/512] {
		if laid, has := piece[place]; has && i < pieces {
			b = laid
		}
	}
	return b
}

func (m *model) crash(c api.Choice) *model {
	m.dead = true
	size := len(m.durable)
	for i, s := range m.sizes {
		if i < c.Size {
			size = s
		}
	}
	out := make([]byte, size)
	for place := range out {
		pieces := c.Rest
		if place/512 < len(c.Sectors) {
			pieces = c.Sectors[place/512]
		}
		out[place] = m.byteAt(place, pieces)
	}
	return newModel(out, m.capacity)
}

// pick tells a place near a border, or any one, or a wild one.
func pick(r *rand.Rand, capacity, size int) int {
	near := []int{0, 512, 1024, 1536, capacity, size}[r.Intn(6)]
	switch r.Intn(12) {
	case 0:
		return []int{-1, math.MinInt, math.MaxInt, capacity + 1}[r.Intn(4)]
	case 1, 2, 3, 4, 5:
		return near + r.Intn(7) - 3
	}
	return r.Intn(capacity + 1)
}

func pickData(r *rand.Rand) []byte {
	n := []int{0, 1, 2, 5, 30, 511, 512, 513, 1100}[r.Intn(9)]
	data := make([]byte, n)
	for i := range data {
		data[i] = byte(1 + r.Intn(255))
	}
	return data
}

func pickChoice(r *rand.Rand) api.Choice {
	number := func() int {
		if r.Intn(15) == 0 {
			return []int{math.MinInt, -1, math.MaxInt}[r.Intn(3)]
		}
		return r.Intn(6)
	}
	c := api.Choice{Size: number(), Rest: number()}
	for range r.Intn(7) {
		c.Sectors = append(c.Sectors, number())
	}
	return c
}

// both makes one change of the disk and of the model, and tells both answers.
func both(r *rand.Rand, d *disk.Disk, m *model) (got, want api.Errno) {
	at := pick(r, m.capacity, len(m.now))
	switch r.Intn(10) {
	case 0:
		return d.Sync(), m.sync()
	case 1, 2, 3:
		return d.Truncate(at), m.truncate(at)
	case 4:
		if r.Intn(4) == 0 {
			n := r.Intn(12) - 4
			d.Fuse(n)
			if !m.dead {
				m.fuse = max(n, -1)
			}
		}
	}
	data := pickData(r)
	return d.WriteAt(at, data), m.writeAt(at, data)
}

func alike(t *testing.T, seed int64, d *disk.Disk, m *model) {
	t.Helper()
	if string(d.Image()) != string(m.now) || d.Size() != len(m.now) || d.Calls() != m.calls || d.Alive() == m.dead || d.Capacity() != m.capacity {
		t.Fatalf("seed %d: Size %d, Calls %d, Alive %v; want %d, %d, %v (or the bytes differ)", seed, d.Size(), d.Calls(), d.Alive(), len(m.now), m.calls, !m.dead)
	}
}

func TestAgainstModel(t *testing.T) { // P1.1 to P1.9, P0.1
	for seed := range int64(400) {
		r := rand.New(rand.NewSource(seed))
		capacity := []int{0, 1, 511, 512, 513, 1024, 1700, 2600}[r.Intn(8)]
		image := make([]byte, r.Intn(capacity+1))
		for i := range image {
			image[i] = byte(1 + r.Intn(255))
		}
		d, e := disk.New(image, capacity)
		answers(t, "New", e, api.OK)
		m := newModel(image, capacity)
		for range 4 {
			for range 1 + r.Intn(12) {
				if got, want := both(r, d, m); got != want {
					t.Fatalf("seed %d: error %d, want %d", seed, got, want)
				}
				alike(t, seed, d, m)
			}
			var next *disk.Disk
			var nextModel *model
			for range 8 {
				c := pickChoice(r)
				x, e := d.Crash(c)
				answers(t, "Crash", e, api.OK)
				y := m.crash(c)
				alike(t, seed, x, y)
				alike(t, seed, d, m)
				next, nextModel = x, y
			}
			d, m = next, nextModel
		}
	}
}

func TestGreatDiskIsCheap(t *testing.T) { // P0.1: every call ends, also many calls of the greatest disk
	d := made(t, "", api.MaxCapacity)
	for range 40 {
		answers(t, "Truncate", d.Truncate(api.MaxCapacity), api.OK)
		answers(t, "Truncate", d.Truncate(0), api.OK)
	}
	answers(t, "Truncate", d.Truncate(api.MaxCapacity), api.OK)
	answers(t, "Sync", d.Sync(), api.OK)
	for i := range 3000 {
		answers(t, "WriteAt", d.WriteAt(i*5000, []byte{byte(i)}), api.OK)
		answers(t, "Sync", d.Sync(), api.OK)
	}
	x, e := d.Crash(api.Choice{})
	answers(t, "Crash", e, api.OK)
	if string(x.Image()) != string(d.Image()) || d.Calls() != 6082 {
		t.Errorf("a great disk is not what was synced, or Calls %d", d.Calls())
	}
}
