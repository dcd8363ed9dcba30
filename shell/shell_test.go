package shell_test

import (
	"strings"
	"testing"

	"valise/api"
	"valise/disk"
	"valise/shell"
	"valise/valise"
)

const room = 8192 // the capacity of the examples' disk

// lines is a script, or its answers, of which the text has the lines parted by " / ".
func lines(text string) string { return strings.ReplaceAll(text, " / ", "\n") }

// runs plays a script over a file, and asks what is answered.
func runs(t *testing.T, image []byte, capacity int, script, want string) []byte {
	t.Helper()
	got, out := shell.Run(image, capacity, lines(script))
	if want != "" {
		want = lines(want) + "\n"
	}
	if got != want {
		t.Errorf("%s\n got %q\nwant %q", script, got, want)
	}
	return out
}

// plays plays a script over an empty file on a disk of 8192 bytes.
func plays(t *testing.T, script, want string) []byte {
	t.Helper()
	return runs(t, nil, room, script, want)
}

// byHand makes a file by calls of the layers below.
func byHand(t *testing.T, change func(*valise.Valise) error) []byte {
	t.Helper()
	d, e := disk.New(nil, 1<<20)
	if e != api.OK {
		t.Fatalf("New: %d", e)
	}
	v, err := valise.Open(d, api.Options{})
	if err == nil {
		err = change(v)
	}
	if err != nil {
		t.Fatal(err)
	}
	return d.Image()
}

// play plays a script over an empty file, and tells its answers, of which there is one at least.
func play(script string) []string {
	got, _ := shell.Run(nil, room, script)
	return strings.Split(strings.TrimSuffix(got, "\n"), "\n")
}
