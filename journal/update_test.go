package journal_test

import (
	"math"
	"testing"

	"valise/api"
	"valise/disk"
	"valise/journal"
)

// dead makes a disk dead that holds a text.
func dead(t *testing.T, s string, capacity int) *disk.Disk {
	t.Helper()
	d := holds(t, s, capacity)
	d.Fuse(0)
	d.Sync()
	return d
}

// refused holds that Update answers an error and changes nothing of the disk, though something of it is not synced.
func refused(t *testing.T, what string, d *disk.Disk, seq, size int, writes []api.Write, want api.Errno) {
	t.Helper()
	image, calls, alive := string(d.Image()), d.Calls(), d.Alive()
	if e := journal.Update(d, seq, size, writes); e != want {
		t.Errorf("%s: Update = %d, want %d", what, e, want)
	}
	if string(d.Image()) != image || d.Calls() != calls || d.Alive() != alive {
		t.Errorf("%s: the disk is changed", what)
	}
}

func TestUpdateRefused(t *testing.T) { // P14.8: each error, and which one is ahead
	good, wrong := []api.Write{write(0, "j")}, []api.Write{write(0, "")}
	loud := "a" + zeros(1024)
	for _, n := range []int{-1, api.MaxField + 1, math.MinInt, math.MaxInt} {
		refused(t, "seq", holds(t, hello, 4096), n, 12, good, api.ErrArg)
		refused(t, "seq, dead", dead(t, hello, 4096), n, 12, good, api.ErrArg)
		refused(t, "seq, and all else", holds(t, loud, 1025), n, 1, wrong, api.ErrArg)
	}
	for _, n := range []int{-1, api.MaxCapacity + 1, math.MinInt, math.MaxInt} {
		refused(t, "size", holds(t, hello, 4096), 1, n, nil, api.ErrArg)
		refused(t, "size, dead", dead(t, hello, 4096), 1, n, good, api.ErrArg)
		refused(t, "size, and all else", holds(t, loud, 1025), 1, n, wrong, api.ErrArg)
	}
	refused(t, "nil", nil, 1, 12, good, api.ErrArg)
	refused(t, "nil, and all else", nil, -1, -1, wrong, api.ErrArg)
	refused(t, "dead", dead(t, hello, 4096), 1, 12, good, api.ErrDiskPower)
	refused(t, "dead, and all else", dead(t, loud, 1025), 1, 1, wrong, api.ErrDiskPower)
	for what, writes := range wrongWrites() {
		refused(t, what, holds(t, hello, 4096), 1, 12, writes, api.ErrSealWrite)
		refused(t, what+", and all else", holds(t, loud, 1025), 1, 12, writes, api.ErrSealWrite)
	}
	refused(t, "not quiet", holds(t, loud, 8192), 1, 1, nil, api.ErrSealQuiet)
	refused(t, "not quiet, no room", holds(t, loud, 1025), 1, 1, nil, api.ErrSealQuiet)
	refused(t, "not quiet behind it", holds(t, hello, 8192), 1, 12+1024, nil, api.ErrSealQuiet)
	refused(t, "not quiet behind it, no room", holds(t, hello, 12), 1, 12+1024, nil, api.ErrSealQuiet)
	refused(t, "no room", holds(t, hello, 1035), 1, 5, nil, api.ErrSealRoom)
	refused(t, "no room for what is saved", holds(t, hello, 2059), 1, 12, good, api.ErrSealRoom)
	refused(t, "no room on a full disk", holds(t, hello, 12), 1, 5, nil, api.ErrSealRoom)
	refused(t, "no room on the greatest disk", holds(t, hello, api.MaxCapacity), 1, api.MaxCapacity, []api.Write{write(api.MaxCapacity-1, "x")}, api.ErrSealRoom)
	refused(t, "no disk that New made", &disk.Disk{}, 1, 0, nil, api.ErrSealRoom)
}

func TestUpdateQuiet(t *testing.T) { // P14.8, P14.5: what makes a content that is not quiet
	seal := func(state int) string { return plainSector(api.Seal{State: state, Seq: 1, Old: 12, New: 5}) }
	for state := 2; state <= 4; state++ {
		journalled := hello + zeros(500) + seal(state) + zeros(12)
		refused(t, "a journal on the disk", holds(t, journalled, 8192), 1, 12, nil, api.ErrSealQuiet)
		refused(t, "a journal would stand", holds(t, hello, 8192), 1, 1036, []api.Write{write(512, seal(state))}, api.ErrSealQuiet)
		d := holds(t, hello, 8192) // and one byte longer it is quiet
		if e := journal.Update(d, 1, 1037, []api.Write{write(512, seal(state))}); e != api.OK || string(d.Image()) != journalled+"\x00" {
			t.Errorf("Update to a journal and a byte = %d", e)
		}
	}
}

func TestUpdateEdges(t *testing.T) { // P14.8: room just enough, the greatest seq, an update that changes nothing
	d := holds(t, hello, 1036)
	if e := journal.Update(d, api.MaxField, 5, nil); e != api.OK || string(d.Image()) != "hello" {
		t.Errorf("room just enough: %d, %s", e, short(string(d.Image())))
	}
	d = holds(t, hello, 1036)
	if e := journal.Update(d, 0, 12, nil); e != api.OK || d.Calls() != 10 || string(d.Image()) != hello {
		t.Errorf("nothing to change: %d, %d calls", e, d.Calls())
	}
	d = holds(t, hello, 1036)
	d.Fuse(7)
	journal.Update(d, api.MaxField, 5, nil)
	found, _ := d.Crash(api.Choice{Rest: 1})
	looks(t, string(found.Image()), api.Verdict{State: api.StateDone, Seq: api.MaxField, Size: 5}, "hello")
}

func TestUpdateGreat(t *testing.T) { // P14.8: as much as fits on the greatest disk
	size := api.MaxCapacity/2 - 512
	content := "a" + zeros(size-2) + "b"
	d := holds(t, content, api.MaxCapacity)
	fresh := "c" + zeros(size-2) + "d"
	if e := journal.Update(d, 1, size, []api.Write{write(0, fresh)}); e != api.ErrSealRoom {
		t.Errorf("Update = %d, want %d", e, api.ErrSealRoom)
	}
	if e := journal.Update(d, 1, size, []api.Write{write(1, fresh[1:size-2000]), write(size-1, "d")}); e != api.OK || string(d.Image()) != "a"+fresh[1:] {
		t.Errorf("Update = %d", e)
	}
}

func TestUpdateUnsynced(t *testing.T) { // P14.8: what was unsynced becomes durable with the first Sync
	d := holds(t, hello, 4096)
	d.WriteAt(0, []byte("j"))
	d.Fuse(2)
	journal.Update(d, 1, 12, nil)
	found, _ := d.Crash(api.Choice{})
	looks(t, string(found.Image()), api.Verdict{State: api.StateClaimed, Seq: 1, Size: 12}, "jello, world")
}

func TestRecoverRefused(t *testing.T) { // P14.6
	for what, d := range map[string]*disk.Disk{"a file at rest": dead(t, hello, 4096), "a journal": dead(t, hello+zeros(1024), 4096)} {
		image := string(d.Image())
		if v, e := journal.Recover(d); v != (api.Verdict{}) || e != api.ErrDiskPower || string(d.Image()) != image {
			t.Errorf("%s: Recover of a dead disk = %v, %d", what, v, e)
		}
	}
	if v, e := journal.Recover(nil); v != (api.Verdict{}) || e != api.ErrArg {
		t.Errorf("Recover(nil) = %v, %d", v, e)
	}
	if v, e := journal.Recover(&disk.Disk{}); v != (api.Verdict{}) || e != api.OK {
		t.Errorf("Recover of an empty disk = %v, %d", v, e)
	}
}

func TestRecoverQuiet(t *testing.T) { // P14.10: nothing is touched, even if it isn't synced and the power would fail
	for _, content := range []string{"", hello, zeros(1023), hello + zeros(500) + plainSector(api.Seal{State: 4, Old: 12, New: 5}) + "x"} {
		d := holds(t, content, 4096)
		d.WriteAt(len(content), []byte("!"))
		d.Fuse(0)
		v, e := journal.Recover(d)
		if v != (api.Verdict{Size: len(content) + 1}) || e != api.OK || d.Calls() != 1 || !d.Alive() || string(d.Image()) != content+"!" {
			t.Errorf("Recover of %s = %v, %d, %d calls", short(content), v, e, d.Calls()-1)
		}
		lost, _ := d.Crash(api.Choice{})
		if string(lost.Image()) != content {
			t.Errorf("Recover of %s has synced", short(content))
		}
	}
}

func TestRecoverOnce(t *testing.T) { // P14.7: a content that isn't quiet is left as it is; the next Recover goes on from it
	inner := hello + zeros(500) + plainSector(api.Seal{State: 4, Seq: 1, Old: 12, New: 5}) + zeros(12)
	file, at, _ := plainPlaces(len(inner), 7, 0)
	image := inner + zeros(at-len(inner)) + plainSector(api.Seal{State: 2, Seq: 2, Old: len(inner), New: 7}) + zeros(file-at-512)
	d := holds(t, image, 8192)
	for i, want := range []struct {
		v       api.Verdict
		content string
	}{
		{api.Verdict{State: api.StateClaimed, Seq: 2, Size: len(inner)}, inner},
		{api.Verdict{State: api.StateDone, Seq: 1, Size: 5}, "hello"},
		{api.Verdict{Size: 5}, "hello"},
	} {
		if v, e := journal.Recover(d); v != want.v || e != api.OK || string(d.Image()) != want.content {
			t.Errorf("Recover %d = %v, %d, %s", i, v, e, short(string(d.Image())))
		}
	}
}
