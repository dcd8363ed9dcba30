package shell_test

import (
	"slices"
	"strings"
	"sync"
	"testing"

	"valise/shell"
)

// busy is a script of all commands.
const busy = `open / add a hello / add "b b" "\x00\"" 0 0 2000 2 3 4 5 6 7 note / list / names 2 / stat a / read a / begin / rename a c / delete "b b" / commit / compact / setnote hi / note / verify / scan / begin / drop / fuse 4 / delete c / crash 1 1 0 1 / open / close / disk / lst / "`

func TestNilIsEmpty(t *testing.T) { // P0.2
	for _, image := range [][]byte{nil, {}, []byte("room")[:0]} {
		runs(t, image, room, `open / disk`, `ok 0 0 / ok 0 0 1`)
	}
	for _, line := range []string{``, `  `, `"`} {
		if words, _ := shell.Parse(line); words != nil {
			t.Errorf("Parse(%q) = %q", line, words)
		}
	}
}

func TestMemory(t *testing.T) { // P0.3
	whole := string(plays(t, `open / add a hello 0`, `ok 0 0 / ok 105`))
	image := append([]byte(whole), "the room behind"...)[:len(whole)]
	_, first := shell.Run(image, room, "open\ndelete a")
	_, same := shell.Run(image, room, "")
	_, again := shell.Run(image, room, "")
	if string(image[:len(whole)+15]) != whole+"the room behind" {
		t.Errorf("what was handed in became %q", image[:len(whole)+15])
	}
	for i := range same[:cap(same)] {
		same[:cap(same)][i] = 'q'
	}
	for i := range image[:cap(image)] {
		image[:cap(image)][i] = 'q'
	}
	if string(first) != theEnd || string(again) != whole {
		t.Errorf("the answers became %q, %q", first, again)
	}
	one, _ := shell.Parse(`a "b" c`)
	two, _ := shell.Parse(`a "b" c`)
	_ = append(one[:1], "x", "x", "x")
	if !slices.Equal(two, []string{"a", "b", "c"}) {
		t.Errorf("another answer became %q", two)
	}
}

func TestOnItsArguments(t *testing.T) { // P0.7, P20.9
	want, wantImage := shell.Run(nil, room, lines(busy))
	if strings.Count(want, "error") != 3 {
		t.Fatalf("%q", want)
	}
	var workers sync.WaitGroup
	for range 8 {
		workers.Go(func() {
			for range 20 {
				if got, image := shell.Run(nil, room, lines(busy)); got != want || string(image) != string(wantImage) {
					t.Errorf("%q, want %q", got, want)
				}
			}
		})
	}
	workers.Wait()
}

func TestBeginnings(t *testing.T) { // P20.9
	script := lines(busy) + "\n\n# the end\n"
	whole, _ := shell.Run(nil, room, script)
	last := ""
	for i := range len(script) + 1 {
		if i < len(script) && script[i] != '\n' {
			continue
		}
		got, _ := shell.Run(nil, room, script[:i])
		if !strings.HasPrefix(whole, got) || !strings.HasPrefix(got, last) {
			t.Errorf("of %q: %q, of the whole %q", script[:i], got, whole)
		}
		last = got
	}
	if last != whole {
		t.Errorf("%q, want %q", last, whole)
	}
}
