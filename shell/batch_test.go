package shell_test

import (
	"testing"

	"valise/api"
	"valise/disk"
	"valise/valise"
)

func TestBatch(t *testing.T) { // P20.7: begin, commit, drop
	plays(t, `open / begin / commit / disk / commit / drop`, `ok 0 0 / ok / ok 0 / ok 0 0 1 / error 201 / error 201`)
	plays(t, `open / commit / drop / begin / drop / drop / commit`, `ok 0 0 / error 201 / error 201 / ok / ok / error 201 / error 201`)
	plays(t, `open / add a x 0 / begin / rename a b / add a y 0 / delete b / names 9 / read a / commit / names 9 / read a`,
		`ok 0 0 / ok 101 / ok / ok / ok / ok / "a" / ok / ok "x" / ok 133 / "a" / ok / ok "y"`)
	plays(t, `open / begin / add a x 0 / drop / begin / add b x 0 / commit / names 9`, `ok 0 0 / ok / ok / ok / ok / ok / ok 101 / "b" / ok`) // what was noted is left
	plays(t, `open / begin / add a x 0 / commit / add b x 0 / begin / add c x 0 / commit / names 9`, `ok 0 0 / ok / ok / ok 101 / ok 180 / ok / ok / ok 259 / "a" / "b" / "c" / ok`)
	plays(t, `open / begin / add a "" 8 9 2026 11 18 9 24 30 493 note / commit / stat a`, `ok 0 0 / ok / ok / ok 106 / "a" 8 0 2 00000000 2026-11-18T09:24:30 493 "note" / ok`)
}

func TestBatchToldLate(t *testing.T) { // P20.7: what is wrong is told by commit, and no batch is begun then
	for _, c := range [][2]string{{`add .. x`, `error 120`}, {`add b x 7`, `error 1`}, {`add b x 8 6 1 1 1 1 1 1`, `error 121`}, {`delete b`, `error 150`}, {`rename a a`, `error 151`}, {`rename b c`, `error 150`}, {`rename a ""`, `error 120`}} {
		plays(t, `open / add a x 0 / begin / add c z 0 / `+c[0]+` / delete a / commit / commit / names 9 / disk / begin`, `ok 0 0 / ok 101 / ok / ok / ok / ok / `+c[1]+` / error 201 / "a" / ok / ok 101 11 1 / ok`)
		plays(t, `open / add a x 0 / begin / add b y 0 / `+c[0]+` z z z / delete a / commit / names 9`, `ok 0 0 / ok 101 / ok / ok / error 200 / ok / ok 133 / "b" / ok`) // no command: not noted
	}
	plays(t, `open 1 2 / begin / add a xyz / commit / begin / add a x / add b x / commit / begin / add a x 0 / rename a b / add b y 0 / commit`, `ok 0 0 / ok / ok / error 153 / ok / ok / ok / error 152 / ok / ok / ok / ok / ok 101`)
}

func TestBatchBetween(t *testing.T) { // P20.7: while one is begun all else is done as ever
	plays(t, `open / begin / add a x 0 / setnote hi / note / compact / list / scan / verify / disk / fuse -1 / commit / names 9 / note`,
		`ok 0 0 / ok / ok / ok 24 / ok "hi" / ok 24 / ok 0 / ok 0 / ok 0 / ok 24 11 1 / ok / ok 103 / "a" / ok / ok "hi"`)
}

func TestBatchEnds(t *testing.T) { // P20.7: close and crash end a batch
	for _, end := range [][2]string{{`close`, `ok`}, {`crash 0 0`, `ok 0`}} {
		plays(t, `open / begin / add a x 0 / `+end[0]+` / commit / drop / open / commit / drop / add b x 0 / begin / commit / names 9`, `ok 0 0 / ok / ok / `+end[1]+` / error 201 / error 201 / ok 0 0 / error 201 / error 201 / ok 101 / ok / ok 101 / "b" / ok`)
	}
}

func TestBatchIsOne(t *testing.T) { // P20.7: the same changing calls as those of one Batch, not of its steps
	d, _ := disk.New(nil, room)
	v, _ := valise.Open(d, api.Options{})
	how := api.How{Method: 8, Level: 6, Stamp: api.Stamp{Year: 1980, Month: 1, Day: 1}}
	for _, steps := range [][]api.Step{
		{{Name: "a", Data: []byte("aaaa"), How: how}, {Name: "b", Data: []byte("b"), How: how}},
		{{Kind: api.StepRename, Name: "a", To: "c"}, {Name: "a", Data: []byte("bbbb"), How: how}, {Kind: api.StepDelete, Name: "b"}},
	} {
		if err := v.Batch(steps...); err != nil {
			t.Fatal(err)
		}
	}
	got := plays(t, `open / begin / add a aaaa / add b b / commit / begin / rename a c / add a bbbb / delete b / commit`, `ok 0 0 / ok / ok / ok / ok 185 / ok / ok / ok / ok / ok 220`)
	if string(got) != string(d.Image()) {
		t.Errorf("another file: %q, want %q", got, d.Image())
	}
}
