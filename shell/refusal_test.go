package shell_test

import (
	"strings"
	"testing"
)

// rightLines are lines of each command, with such words as it wants.
var rightLines = []string{
	`open`, `open 0 0`, `close`, `list`, `names 1`, `stat a`, `read a`, `add a x`, `add a x 0`, `add a x 0 0`, `add a x 0 0 1980 1 1 0 0 0`, `add a x 0 0 1980 1 1 0 0 0 0`, `add a x 0 0 1980 1 1 0 0 0 0 ""`,
	`delete a`, `rename a b`, `compact`, `begin`, `commit`, `drop`, `note`, `setnote x`, `scan`, `verify`, `fuse -1`, `crash 0 0`, `crash 0 0 0`, `crash 0 0 0 0 0 0 0`, `disk`,
}

// countsOf tells how many words may stand behind each command's own, up to 15.
var countsOf = map[string][]int{
	`open`: {0, 2}, `close`: {0}, `list`: {0}, `names`: {1}, `stat`: {1}, `read`: {1}, `add`: {2, 3, 4, 10, 11, 12}, `delete`: {1}, `rename`: {2}, `compact`: {0}, `begin`: {0}, `commit`: {0}, `drop`: {0},
	`note`: {0}, `setnote`: {1}, `scan`: {0}, `verify`: {0}, `fuse`: {1}, `crash`: {2, 3, 4, 5, 6, 7, 8, 9, 10, 11, 12, 13, 14, 15}, `disk`: {0},
}

func TestCounts(t *testing.T) { // P20.6: as many words as the command wants
	for word, counts := range countsOf {
		for n := range 16 {
			fits := false
			for _, m := range counts {
				fits = fits || n == m
			}
			line := word + strings.Repeat(" 1", n)
			for _, script := range []string{line, "open\n" + line, "open\nbegin\n" + line} { // ahead of all that hangs on what is open
				got := play(script)
				if last := got[len(got)-1]; (last == "error 200") == fits {
					t.Errorf("%q: %q", script, got)
				}
			}
		}
	}
	if len(countsOf) != 20 {
		t.Errorf("%d commands", len(countsOf))
	}
}

func TestNumbersWanted(t *testing.T) { // P20.6: numbers where those are wanted, and texts where those are
	texts := map[string]string{`stat`: `t`, `read`: `t`, `delete`: `t`, `rename`: `tt`, `setnote`: `t`, `add`: `ttnnnnnnnnnt`}
	for _, line := range rightLines {
		words := strings.Fields(line)
		for i := 1; i < len(words); i++ {
			bad := append([]string{}, words...)
			bad[i] = "1x"
			isText := i <= len(texts[words[0]]) && texts[words[0]][i-1] == 't'
			got := play("open\n" + strings.Join(bad, " "))
			if last := got[len(got)-1]; (last != "error 200") != isText {
				t.Errorf("%q: %q", bad, got)
			}
		}
	}
}

func TestNoCommands(t *testing.T) { // P20.6: a first word that is none
	for _, line := range []string{`lst`, `Open`, `OPEN`, `open.`, `"open "`, `" open"`, `""`, `ope`, `opened`, `-1`, `0`, `help`, `exit`, `size`, `found`, `batch`, `image`, `\x6fpen`, `"\\x6fpen"`, `open#`, `;`, `open;close`} {
		plays(t, line+` / disk`, `error 200 / ok 0 0 1`)
		plays(t, `open / `+line+` / list`, `ok 0 0 / error 200 / ok 0`)
	}
}

func TestShut(t *testing.T) { // P20.6, P20.7: all but five want an open archive
	for _, line := range rightLines {
		want := `error 201`
		switch strings.Fields(line)[0] {
		case `open`:
			want = `ok 0 0`
		case `scan`, `crash`:
			want = `ok 0`
		case `fuse`:
			want = `ok`
		case `disk`:
			want = `ok 0 0 1`
		}
		plays(t, line, want)
		plays(t, `open / close / `+line, `ok 0 0 / ok / `+want)
		plays(t, `open / crash 0 0 / `+line, `ok 0 0 / ok 0 / `+want)
		plays(t, `open -1 -1 / `+line, `error 1 / `+want) // one that is refused leaves none open
	}
}

func TestOpenTwice(t *testing.T) { // P20.6: open and begin where it is, or one is, begun
	plays(t, `open / open / open -1 -1 / open x y / begin / open / begin / close / begin`, `ok 0 0 / error 202 / error 202 / error 200 / ok / error 202 / error 202 / ok / error 201`)
	plays(t, `open / fuse 0 / compact / open / begin / begin / close / open / open`, `ok 0 0 / ok / error 12 / error 202 / ok / error 202 / ok / error 12 / error 12`)
}

func TestRefusedChangesNothing(t *testing.T) { // P20.6: nothing happens
	script := `open / add a hello 0 / begin / add b x 0 / `
	want := `ok 0 0 / ok 105 / ok / ok / `
	for _, c := range [][2]string{
		{`begin`, `error 202`}, {`open`, `error 202`}, {`add b`, `error 200`}, {`delete`, `error 200`}, {`rename b`, `error 200`}, {`commit 1`, `error 200`}, {`drop x`, `error 200`}, {`close 1`, `error 200`}, {`crash 1`, `error 200`}, {`crash x 1`, `error 200`}, {`fuse`, `error 200`}, {`fuse 0x`, `error 200`},
		{`read c`, `error 150`}, {`"`, `error 200`}, {`nothing`, `error 200`}, {`setnote`, `error 200`},
	} {
		plays(t, script+c[0]+` / disk / commit / list`, want+c[1]+` / ok 105 11 1 / ok 184 / "a" 0 5 5 3610a686 1980-01-01T00:00:00 0 "" / "b" 0 1 1 8cdc1683 1980-01-01T00:00:00 0 "" / ok 2`)
	}
}
