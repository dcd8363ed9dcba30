package shell_test

import (
	"fmt"
	"strings"
	"testing"
)

func TestDead(t *testing.T) { // P20.7: what each command answers once the power has failed
	for _, line := range rightLines {
		want := `error 12`
		switch strings.Fields(line)[0] {
		case `open`:
			want = `error 202`
		case `close`, `names`, `begin`, `fuse`:
			want = `ok`
		case `commit`, `drop`:
			want = `error 201`
		case `scan`:
			want = `"a" 0 1 1 8cdc1683 1980-01-01T00:00:00 0 "" / ok 1`
		case `crash`:
			want = `ok 101`
		case `disk`:
			want = `ok 101 11 0`
		}
		plays(t, `open / add a x 0 / fuse 0 / delete a / `+line, `ok 0 0 / ok 101 / ok / error 12 / `+want)
	}
}

func TestDeadBatch(t *testing.T) { // P20.7: what is noted for a batch answers ok, dead or not; commit tells
	script, want := `open / add a x 0 / fuse 0 / delete a / begin / `, `ok 0 0 / ok 101 / ok / error 12 / ok / `
	plays(t, script+`add b x / delete a / rename a b / names 3 / list / begin / commit / commit / begin / drop`, want+`ok / ok / ok / ok / error 12 / error 202 / error 12 / error 201 / ok / ok`)
	plays(t, script+`commit / drop`, want+`error 12 / error 201`)
	plays(t, script+`add b / commit`, want+`error 200 / error 12`)
	plays(t, script+`add b x / close / open / commit`, want+`ok / ok / error 12 / error 201`)
	plays(t, script+`add b x / crash 0 0 / open / commit / names 3`, want+`ok / ok 101 / ok 0 101 / error 201 / "a" / ok`)
	plays(t, `open / begin / add b x 0 / fuse 5 / commit / commit / crash 0 0 / open / list`, `ok 0 0 / ok / ok / ok / error 12 / error 201 / ok 1024 / ok 3 0 / ok 0`)
}

func TestDeadOpen(t *testing.T) { // P20.7: open over a dead disk, and one in which the power fails
	plays(t, `open / fuse 0 / compact / close / open / open 1 1 / list / close / begin / disk / scan / crash 0 0 / open`, `ok 0 0 / ok / error 12 / ok / error 12 / error 12 / error 201 / error 201 / error 201 / ok 0 0 0 / ok 0 / ok 0 / ok 0 0`)
	for fuse, left := range []int{1024, 0} { // a blank journal is cut off and synced
		runs(t, make([]byte, 1024), room, `fuse `+fmt.Sprint(fuse)+` / open / list / open / disk / crash 9 9 / open / list`,
			fmt.Sprintf(`ok / error 12 / error 201 / error 12 / ok %d %d 0 / ok %d / ok %d 0 / ok 0`, left, fuse, left, left/1024))
	}
}

func TestEveryFuse(t *testing.T) { // P20.7: wherever the power fails in a change, its answer is error 12
	for _, line := range []string{`add b y 0`, `add a another`, `delete a`, `rename a b`, `setnote x`, `commit`} {
		script := "open\nadd a x 0\n"
		if line == `commit` {
			script += "begin\nadd b y 0\ndelete a\n"
		}
		whole := play(script + "disk\n" + line + "\ndisk")
		var size, before, after, life int
		fmt.Sscanf(whole[len(whole)-3], "ok %d %d %d", &size, &before, &life)
		fmt.Sscanf(whole[len(whole)-1], "ok %d %d %d", &size, &after, &life)
		if after-before < 11 || whole[len(whole)-2] != fmt.Sprint("ok ", size) {
			t.Fatalf("%s: %q", line, whole)
		}
		for fuse := range after - before + 1 {
			got := play(script + fmt.Sprintf("fuse %d\n", fuse) + line + "\ndisk")
			want := []string{"error 12", fmt.Sprintf("%d 0", before+fuse)}
			if fuse == after-before {
				want = []string{fmt.Sprint("ok ", size), fmt.Sprintf("%d 1", after)}
			}
			if n := len(got); got[n-2] != want[0] || !strings.HasSuffix(got[n-1], " "+want[1]) {
				t.Errorf("%s at fuse %d: %q", line, fuse, got)
			}
		}
	}
}
