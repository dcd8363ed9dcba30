package store_test

import (
	"strings"
	"testing"

	"valise/api"
	"valise/store"
)

func TestExampleEmpty(t *testing.T) { // example 1
	d := holds(t, "", 4096)
	s := opened(t, d)
	tells(t, s, d, api.Verdict{}, "")
	if a := s.Archive(); len(a.Entries) != 0 || a.DirAt != 0 || a.Size != 0 || d.Calls() != 0 {
		t.Errorf("Archive %v, %d changing calls", a, d.Calls())
	}
}

func TestExampleApply(t *testing.T) { // example 2
	d := holds(t, "", 4096)
	s := opened(t, d)
	p := writes(22, 0, none)
	if n := need(t, "", p); n != 1024 {
		t.Errorf("Need = %d", n)
	}
	if e := s.Apply(p); e != api.OK || d.Calls() != 11 {
		t.Errorf("Apply = %d, %d changing calls", e, d.Calls())
	}
	tells(t, s, d, api.Verdict{}, none)
	if e := s.Apply(p); e != api.OK || d.Calls() != 11 {
		t.Errorf("the same Apply again = %d, %d changing calls", e, d.Calls())
	}
}

func TestExampleFull(t *testing.T) { // example 3
	d := holds(t, "", 1023)
	s := opened(t, d)
	if e := s.Apply(writes(22, 0, none)); e != api.ErrFull || d.Calls() != 0 {
		t.Errorf("Apply = %d, %d changing calls", e, d.Calls())
	}
	tells(t, s, d, api.Verdict{}, "")
}

func TestExampleFiles(t *testing.T) { // example 4
	refuses(t, strings.Repeat("\x01", 100), api.ErrLayEnd)
	refuses(t, zeros(1025), api.ErrSpoilt)
	d := holds(t, zeros(1024), 4096)
	tells(t, opened(t, d), d, api.Verdict{State: 1}, "")
	if d.Calls() != 2 {
		t.Errorf("%d changing calls", d.Calls())
	}
}

func TestExampleComment(t *testing.T) { // example 5
	content := none[:20] + "\x01\x00x"
	d := holds(t, content, 4096)
	s := opened(t, d)
	tells(t, s, d, api.Verdict{Size: 23}, content)
	if s.Archive().Comment != "x" || d.Calls() != 0 {
		t.Errorf("the comment %q, %d changing calls", s.Archive().Comment, d.Calls())
	}
}

func TestExamplePower(t *testing.T) { // example 6
	d := holds(t, "", 4096)
	s := opened(t, d)
	d.Fuse(0)
	if e := s.Apply(writes(22, 0, none)); e != api.ErrDiskPower {
		t.Errorf("Apply = %d", e)
	}
	silent(t, s, d, api.Verdict{}, "")
}

// refuses holds that Open refuses a file, and leaves it as it is.
func refuses(t *testing.T, image string, want api.Errno) {
	t.Helper()
	d := holds(t, image, most)
	if s, e := store.Open(d); s != nil || e != want {
		t.Errorf("Open over %s = %v, %d, want %d", short(image), s != nil, e, want)
	}
	if d.Calls() != 0 || string(d.Image()) != image || !d.Alive() {
		t.Errorf("Open over %s: refused, with %d changing calls", short(image), d.Calls())
	}
}
