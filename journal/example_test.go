package journal_test

import (
	"testing"

	"valise/api"
	"valise/journal"
)

func TestExampleQuiet(t *testing.T) { // example 1
	for _, x := range []struct {
		content string
		want    bool
	}{{"abc", true}, {"", true}, {zeros(1023), true}, {zeros(1024), false}, {"a" + zeros(1024), false}} {
		if journal.Quiet([]byte(x.content)) != x.want {
			t.Errorf("Quiet(%s) isn't %v", short(x.content), x.want)
		}
	}
}

func TestExampleNeed(t *testing.T) { // example 2
	needs(t, 0, 0, nil, 1024, api.OK)
	needs(t, 100, 100, []api.Write{write(10, zeros(20))}, 2148, api.OK)
	needs(t, 0, 100, []api.Write{write(0, zeros(100))}, 1024, api.OK)
	needs(t, 512, 0, nil, 1536, api.OK)
	needs(t, 0, 100, []api.Write{write(0, zeros(101))}, 0, api.ErrSealWrite)
}

func TestExampleLook(t *testing.T) { // example 3
	silent(t, "")
	looks(t, zeros(1024), api.Verdict{State: api.StateBlank}, "")
	looks(t, "ab"+zeros(2050), api.Verdict{State: api.StateBlank, Size: 4}, "ab\x00\x00")
	silent(t, "ab"+zeros(1023))
	sector, _ := journal.EncodeSeal(api.Seal{State: api.StateClaimed, Seq: 3, Old: 12, New: 5})
	image := hello + zeros(500) + string(sector) + zeros(12)
	looks(t, image, api.Verdict{State: api.StateClaimed, Seq: 3, Size: 12}, hello)
	silent(t, image[:1035]+"x")
	silent(t, image+"\x00")
}

// updates calls Update on a disk with hello, with a fuse, and holds its answer against what is wanted; it tells the disk's crashes.
func updates(t *testing.T, fuse int, want api.Errno) func(api.Choice) string {
	t.Helper()
	d := holds(t, hello, 4096)
	d.Fuse(fuse)
	if e := journal.Update(d, 7, 5, nil); e != want {
		t.Errorf("Update with Fuse(%d) = %d, want %d", fuse, e, want)
	}
	return func(c api.Choice) string {
		found, _ := d.Crash(c)
		return string(found.Image())
	}
}

func TestExampleUpdate(t *testing.T) { // example 4
	d := holds(t, hello, 4096)
	needs(t, 12, 5, nil, 1036, api.OK)
	if e := journal.Update(d, 7, 5, nil); e != api.OK || d.Calls() != 10 || string(d.Image()) != "hello" {
		t.Errorf("Update = %d, %d calls, %s", e, d.Calls(), short(string(d.Image())))
	}
	sizes := []int{12, 1036, 1036, 1036, 1036, 1036, 1036, 1036, 1036, 5}
	for fuse, size := range sizes {
		d := holds(t, hello, 4096)
		d.Fuse(fuse)
		if e := journal.Update(d, 7, 5, nil); e != api.ErrDiskPower || d.Size() != size {
			t.Errorf("with Fuse(%d): %d, %d bytes, want %d", fuse, e, d.Size(), size)
		}
	}
}

func TestExampleCrash(t *testing.T) { // examples 5 and 6
	crash := updates(t, 4, api.ErrDiskPower)
	looks(t, crash(api.Choice{}), api.Verdict{State: api.StateClaimed, Seq: 7, Size: 12}, hello)
	looks(t, crash(api.Choice{Rest: 1}), api.Verdict{State: api.StateArmed, Seq: 7, Size: 12}, hello)
	crash = updates(t, 1, api.ErrDiskPower)
	silent(t, crash(api.Choice{}))
	if image := crash(api.Choice{Size: 1}); image != hello+zeros(1024) {
		t.Errorf("the file found: %s", short(image))
	}
	looks(t, crash(api.Choice{Size: 1}), api.Verdict{State: api.StateBlank, Size: 12}, hello)
	crash = updates(t, 7, api.ErrDiskPower)
	looks(t, crash(api.Choice{}), api.Verdict{State: api.StateArmed, Seq: 7, Size: 12}, hello)
	looks(t, crash(api.Choice{Rest: 1}), api.Verdict{State: api.StateDone, Seq: 7, Size: 5}, "hello")
}

func TestExampleWrites(t *testing.T) { // example 7
	needs(t, 12, 12, []api.Write{write(0, "j")}, 2060, api.OK)
	for _, x := range []struct {
		capacity, size int
		writes         []api.Write
		want           string
		e              api.Errno
	}{
		{4096, 12, []api.Write{write(0, "j")}, "jello, world", api.OK},
		{2059, 12, []api.Write{write(0, "j")}, hello, api.ErrSealRoom},
		{4096, 12, []api.Write{write(0, "j"), write(0, "e")}, hello, api.ErrSealWrite},
		{4096, 12, []api.Write{write(12, "!")}, hello, api.ErrSealWrite},
		{4096, 13, nil, hello + "\x00", api.OK},
	} {
		d := holds(t, hello, x.capacity)
		if e := journal.Update(d, 1, x.size, x.writes); e != x.e || string(d.Image()) != x.want {
			t.Errorf("Update to %d bytes by %d writes = %d, %s, want %d, %s", x.size, len(x.writes), e, short(string(d.Image())), x.e, short(x.want))
		}
	}
}
