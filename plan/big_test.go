package plan_test

import (
	"strings"
	"testing"

	"valise/api"
	"valise/journal"
	"valise/layout"
)

func TestBigAdd(t *testing.T) { // P15.3, P15.4: entries about as long as a disk
	long := zeros(most + 1)
	refused(t, "", adds("a", long), api.ErrArg)
	for _, n := range []int{most, most - 30, most - 31, most - 100, most - 101} { // too long for a disk, by the packed bytes, by the extent, by the whole
		refused(t, "", adds("a", long[:n]), api.ErrFull)
		refused(t, one, adds("a", long[:n]), api.ErrFull)
		refused(t, frame{comment: "a comment of ten bytes and more"}.lay(), adds("a", long[:n]), api.ErrFull)
	}
	// of an empty file nothing is saved: the file is as long as the content, up to a sector, and 1024
	n := most - 1024 - 100
	p, e := adds("a", long[:n]).call(nil, api.Archive{})
	if e != api.OK || p.Size != most-1024 || p.Moves || len(p.Writes) != 1 || p.Writes[0].At != 0 {
		t.Fatalf("Add of %d bytes: %s, %d", n, brief(p), e)
	}
	if need, _ := journal.Need(0, p.Size, p.Writes); need != most {
		t.Errorf("the journal needs %d", need)
	}
	refused(t, "", adds("a", long[:n]).on(most-1), api.ErrFull)
	planned(t, "", adds("a", long[:n+512]), most-512, false, 0, most-512)
	refused(t, "", adds("a", long[:n+513]), api.ErrFull)
}

func TestBigNote(t *testing.T) { // P15.3: beyond MaxCapacity it is ErrFull, even where it would not read back
	end := endOf(0)
	for _, x := range []struct {
		size int
		want api.Errno
	}{{most - 22, api.ErrNote}, {most - 21, api.ErrFull}, {most, api.ErrFull}} {
		file := frame{}.lay(plainPart("a", zeros(x.size-100)))
		if len(file) != x.size {
			t.Fatalf("%d bytes", len(file))
		}
		refused(t, file, notes(end), x.want)
	}
	// in place too long for a disk, moved not
	file := frame{}.lay(behind(most-10000, plainPart("a", strings.Repeat("x", 9900))))
	if len(file) != most {
		t.Fatalf("%d bytes", len(file))
	}
	refused(t, file, notes("x"), api.ErrFull) // the journal would begin behind the old content
	refused(t, file, notes(end), api.ErrNote)
}

func TestMany(t *testing.T) { // P15.4: as many entries as may be
	parts := countedParts(65535)
	file := frame{}.lay(parts...)
	a := parsed(t, file)
	refuse := func(x ask, want api.Errno) {
		t.Helper()
		if p, e := x.call([]byte(file), a); e != want || !samePlan(p, api.Plan{}) {
			t.Errorf("%v = %s, %d, want %d", x, brief(p), e, want)
		}
	}
	refuse(adds("new", ""), api.ErrMany)
	refuse(adds("new", "").on(0), api.ErrMany)
	refuse(adds("/", ""), api.ErrName)
	refuse(adds("12345", "x").on(0), api.ErrFull)
	dir := a.Size - a.DirAt
	planned(t, file, adds("12345", ""), a.Size, false, 12345*35, 35, a.DirAt, dir)
	planned(t, file, adds("12345", "x"), a.Size+36, false, a.DirAt, dir+36)
	planned(t, file, renames("12345", "new"), a.Size-2, false, 12345*35, 33, a.DirAt, dir-2)
	next := planned(t, file, deletes("00000"), a.Size-51, false, a.DirAt, dir-51)
	planned(t, next, adds("new", ""), a.Size-2, false, 0, 33, a.DirAt, dir-2)
	planned(t, next, compacts(), a.Size-35-51, true, 0, a.Size-35-51)
}

func TestLongFile(t *testing.T) { // P15.8: a file of another program, as long as may be
	file := []byte(frame{gap: zeros(most - 102)}.lay(plainPart("a", "hi")))
	a, e := layout.Parse(file)
	if e != api.OK || a.Size != most {
		t.Fatalf("%d bytes, %d", a.Size, e)
	}
	for _, x := range []ask{adds("b", ""), deletes("a"), renames("a", "b"), notes("x"), compacts()} {
		if p, e := x.call(file, a); e != api.ErrFull { // its journal would stand behind MaxCapacity
			t.Errorf("%v = %s, %d", x, brief(p), e)
		}
	}
}
