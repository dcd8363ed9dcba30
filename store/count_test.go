package store

import (
	"testing"

	"valise/api"
	"valise/disk"
	"valise/journal"
)

func TestCountWraps(t *testing.T) { // P16.7: behind 4294967295 updates the sequence number is 0
	plan := api.Plan{Size: 22, Writes: []api.Write{{At: 0, Data: append([]byte("PK\x05\x06"), make([]byte, 18)...)}}}
	for _, x := range []struct {
		count uint32
		seq   int
	}{{0, 1}, {4294967294, 4294967295}, {4294967295, 0}} {
		d, _ := disk.New(nil, 4096)
		s, e := Open(d)
		if e != api.OK {
			t.Fatalf("Open = %d", e)
		}
		s.count = x.count
		d.Fuse(2)
		s.Apply(plan)
		found, _ := d.Crash(api.Choice{})
		if v, _ := journal.Look(found.Image()); v.State != api.StateClaimed || v.Seq != x.seq {
			t.Errorf("behind %d updates: %v", x.count, v)
		}
		d, _ = disk.New(nil, 4096)
		s, _ = Open(d)
		s.count = x.count
		if e := s.Apply(plan); e != api.OK {
			t.Errorf("behind %d updates: Apply = %d", x.count, e)
		}
	}
}
