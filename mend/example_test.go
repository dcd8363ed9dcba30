package mend_test

import (
	"slices"
	"testing"

	"valise/api"
	"valise/disk"
	"valise/layout"
	"valise/mend"
	"valise/store"
)

func TestExampleFiles(t *testing.T) { // example 1
	audits(t, "")
	audits(t, none)
	audits(t, "abc", at(130, 0, ""))
	audits(t, zeros(1024), at(141, 0, ""))
}

func TestExampleFindings(t *testing.T) { // example 2
	if laid(stored("a", "hi")) != known {
		t.Fatalf("the tests lay down %q", laid(stored("a", "hi")))
	}
	audits(t, known)
	audits(t, with(known, 31, 'x'), at(170, 0, "a"))
	audits(t, with(known, 30, 'b'), at(136, 0, "a"))
	audits(t, with(with(known, 84, 1), 31, 'x'), at(131, 80, ""), at(170, 0, "a"))
	audits(t, with(known, 33, 'x'), at(132, 33, ""))
}

func TestExampleMend(t *testing.T) { // example 3
	mends(t, known[:33], 4096, 1, known, strokes(known[:33], known))
	mends(t, "abc", 4096, 0, none, strokes("abc", none))
	refuses(t, "abc", 2050, api.ErrFull)
	mends(t, "abc", 3+2*1024, 0, none, strokes("abc", none))
}

func TestExampleReadme(t *testing.T) { // what README.md says
	file, _ := layout.Render([]api.Item{{Central: stored("a", "hi").record, Bytes: []byte("hi")}, {Central: stored("b", "bye").record, Bytes: []byte("bye")}}, "")
	if findings, e := mend.Audit(file); len(findings) != 0 || e != api.OK {
		t.Errorf("Audit = %v, %d", findings, e)
	}
	file[31] = 'x'
	file[len(file)-18] = 1
	want := []api.Finding{{Code: api.ErrLayDisk, At: 161}, {Code: api.ErrDamaged, Name: "a"}}
	if findings, e := mend.Audit(file); e != api.OK || !slices.Equal(findings, want) {
		t.Errorf("Audit = %v, %d", findings, e)
	}
	d, _ := disk.New(file, 4096)
	if _, e := store.Open(d); e != api.ErrLayDisk {
		t.Errorf("Open = %d", e)
	}
	if n, e := mend.Mend(d); n != 1 || e != api.OK {
		t.Errorf("Mend = %d, %d", n, e)
	}
	if s, e := store.Open(d); e != api.OK || len(s.Archive().Entries) != 1 || s.Archive().Entries[0].Name != "b" {
		t.Errorf("Open = %d", e)
	}
}
