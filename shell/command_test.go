package shell_test

import (
	"fmt"
	"strings"
	"testing"

	"valise/api"
	"valise/shell"
	"valise/valise"
)

func TestLines(t *testing.T) { // P20.2
	for script, want := range map[string]string{
		"":                       "",
		"\n\n\n":                 "",
		"  \n\n  ":               "",
		"disk":                   "ok 0 0 1\n",
		"disk\n":                 "ok 0 0 1\n",
		"\ndisk\n\n  disk  \n ":  "ok 0 0 1\nok 0 0 1\n",
		"#":                      "",
		"#disk\n# \"\n#\x00\xff": "",            // whatever stands behind it
		" # disk":                "error 200\n", // it is not the first byte
		"disk # all":             "error 200\n",
		"\"#\"":                  "error 200\n",
		"disk\r\ndisk":           "error 200\nok 0 0 1\n",
		"\tdisk":                 "error 200\n",
		"\"disk\"":               "ok 0 0 1\n",
		"\"\\x64isk\"":           "ok 0 0 1\n",
		"\"\"":                   "error 200\n",
		"\"a\nb\"":               "error 200\nerror 200\n",
	} {
		if got, _ := shell.Run(nil, room, script); got != want {
			t.Errorf("%q: %q, want %q", script, got, want)
		}
	}
}

func TestRun(t *testing.T) { // P20.5
	for _, c := range []struct {
		image    string
		capacity int
		script   string
		want     string
		wantOut  string
	}{
		{"", -1, "open\nlist", "error 1\n", ""},
		{"abc", -1, "open", "error 1\n", ""},
		{"", api.MaxCapacity + 1, "", "error 1\n", ""},
		{"abc", 2, "", "error 10\n", ""},
		{"abc", 0, "disk", "error 10\n", ""},
		{"", 0, "disk\nopen\ncompact", "ok 0 0 1\nok 0 0\nerror 154\n", ""},
		{"abc", 3, "disk", "ok 3 0 1\n", "abc"},
		{"abc", 3, "", "", "abc"},
		{"abc", 3, "crash 9 9\nopen", "ok 3\nerror 130\n", "abc"},
		{"", api.MaxCapacity, "disk", "ok 0 0 1\n", ""},
	} {
		got, out := shell.Run([]byte(c.image), c.capacity, c.script)
		if got != c.want || string(out) != c.wantOut {
			t.Errorf("Run(%q, %d, %q) = %q, %q, want %q, %q", c.image, c.capacity, c.script, got, out, c.want, c.wantOut)
		}
	}
}

// theEnd is an archive without entries.
const theEnd = "PK\x05\x06\x00\x00\x00\x00\x00\x00\x00\x00\x00\x00\x00\x00\x00\x00\x00\x00\x00\x00"

func TestRunImage(t *testing.T) { // P20.5: the image in the end, of a dead disk too
	if image := plays(t, `open / compact`, `ok 0 0 / ok 22`); string(image) != theEnd {
		t.Errorf("%q", image)
	}
	image := plays(t, `open / fuse 1 / compact / disk`, `ok 0 0 / ok / error 12 / ok 1024 1 0`)
	if len(image) != 1024 || string(image[512:520]) != "VALISEJ1" {
		t.Errorf("the file of a dead disk: %d bytes", len(image))
	}
	if image = plays(t, `open / fuse 1 / compact / crash 0 0`, `ok 0 0 / ok / error 12 / ok 0`); len(image) != 0 {
		t.Errorf("the file behind a crash: %d bytes", len(image))
	}
}

func TestOpen(t *testing.T) { // P20.7: open, close
	plays(t, `open 0 0 / close / open 65535 4294967295 / close / open / close / close`, `ok 0 0 / ok / ok 0 0 / ok / ok 0 0 / ok / error 201`)
	plays(t, `open 65536 0 / open 0 4294967296 / open -1 0 / open 0 -1 / list / open 2 0 / open 65536 0`, `error 1 / error 1 / error 1 / error 1 / error 201 / ok 0 0 / error 202`)
	plays(t, `open 2 0 / add a x 0 / add b x 0 / add c x 0 / close / open 3 0 / add c x 0`, `ok 0 0 / ok 101 / ok 180 / error 152 / ok / ok 0 180 / ok 259`)
	runs(t, []byte(theEnd), room, `open / disk`, `ok 0 22 / ok 22 0 1`)
	runs(t, make([]byte, 1024), room, `open / disk`, `ok 1 0 / ok 0 2 1`)
	runs(t, make([]byte, 1025), room, `open / disk / list`, `error 161 / ok 1025 0 1 / error 201`)
}

func TestTelling(t *testing.T) { // P20.7, P20.8: list, names, stat, read, note
	script := `open / add b bbbb 8 9 2107 12 31 23 59 59 65535 "of \"b\"" / add "a a" x 0 / setnote "the \\ note" / `
	image := plays(t, script+`list / names 1 / names 2 / names 3 / names 0 / stat b / stat "a a" / read b / read "a a" / note / disk`,
		`ok 0 0 / ok 110 / ok 193 / ok 203 / `+
			`"a a" 0 1 1 8cdc1683 1980-01-01T00:00:00 0 "" / "b" 8 4 4 0f4ff68b 2107-12-31T23:59:58 65535 "of \"b\"" / ok 2 / `+
			`"a a" / ok / "a a" / "b" / ok / "a a" / "b" / ok / ok / `+
			`"b" 8 4 4 0f4ff68b 2107-12-31T23:59:58 65535 "of \"b\"" / ok / "a a" 0 1 1 8cdc1683 1980-01-01T00:00:00 0 "" / ok / `+
			`ok "bbbb" / ok "x" / ok "the \\ note" / ok 203 35 1`)
	runs(t, image, room, `open / stat a / stat "" / read a / read "" / disk`, `ok 0 203 / error 150 / error 150 / error 150 / error 150 / ok 203 0 1`)
	plays(t, `open / list / names 5 / note / verify / scan`, `ok 0 0 / ok 0 / ok / ok "" / ok 0 / ok 0`)
}

func TestEntryLine(t *testing.T) { // P20.8: zeros ahead of sums and times
	plays(t, `open / add a "" 0 0 2001 2 3 4 5 6 7 / add b jejf 0 0 1999 10 11 12 13 14 / list`,
		`ok 0 0 / ok 100 / ok 182 / "a" 0 0 0 00000000 2001-02-03T04:05:06 7 "" / "b" 0 4 4 000086f0 1999-10-11T12:13:14 0 "" / ok 2`)
}

func TestAdd(t *testing.T) { // P20.7: what may be left out
	for _, c := range [][2]string{
		{`a aaaa`, `8 4 4 ad98e545 1980-01-01T00:00:00 0 ""`},
		{`a aaaa 8`, `8 4 4 ad98e545 1980-01-01T00:00:00 0 ""`},
		{`a aaaa 0`, `0 4 4 ad98e545 1980-01-01T00:00:00 0 ""`},
		{`a aaaa 8 0`, `8 4 9 ad98e545 1980-01-01T00:00:00 0 ""`}, // stored, in a block
		{`a aaaa 0 9`, `0 4 4 ad98e545 1980-01-01T00:00:00 0 ""`},
		{`a aaaa 8 6 2026 11 18 9 24 31`, `8 4 4 ad98e545 2026-11-18T09:24:30 0 ""`},
		{`a aaaa 8 6 2026 11 18 9 24 31 420`, `8 4 4 ad98e545 2026-11-18T09:24:30 420 ""`},
		{`a aaaa 8 6 2026 11 18 9 24 31 420 note`, `8 4 4 ad98e545 2026-11-18T09:24:30 420 "note"`},
		{`a aaaa 8 6 2026 11 18 9 24 31 420 ""`, `8 4 4 ad98e545 2026-11-18T09:24:30 420 ""`},
		{`a aaaa 8 6 2026 11 18 9 24 31 420 7`, `8 4 4 ad98e545 2026-11-18T09:24:30 420 "7"`}, // a text, whatever it looks like
		{`a 7 0`, `0 1 1 6abf4a82 1980-01-01T00:00:00 0 ""`},
	} {
		got, _ := shell.Run(nil, room, "open\nadd "+c[0]+"\nstat a")
		line := strings.Split(got, "\n")
		if len(line) != 5 || strings.HasPrefix(line[1], "error") || line[2] != `"a" `+c[1] {
			t.Errorf("add %s: %q", c[0], got)
		}
	}
	for _, words := range []string{``, ` a`, ` a x y`, ` a x 8 y`, ` a x 8 6 2026`, ` a x 8 6 2026 11`, ` a x 8 6 2026 11 18`, ` a x 8 6 2026 11 18 9`, ` a x 8 6 2026 11 18 9 24`, ` a x 8 6 2026 11 18 9 24 x`, ` a x 8 6 2026 11 18 9 24 31 x`, ` a x 8 6 2026 11 18 9 24 31 420 note 1`, ` a x 8 6 2026 11 18 9 24 31 420 "a" "b"`} {
		plays(t, `open / add`+words+` / disk`, `ok 0 0 / error 200 / ok 0 0 1`)
	}
	for words, e := range map[string]int{`a x 3`: 1, `a x 8 10`: 1, `a x 0 -1`: 1, `a x 8 6 1980 1 1 0 0 0 65536`: 1, `a x 8 6 1979 12 31 0 0 0`: 121, `a x 8 6 2100 2 29 0 0 0`: 121, `"" x`: 120, `"\xff" x`: 120, `a/ x`: 0} {
		want := `error ` + fmt.Sprint(e)
		if e == 0 {
			want = `ok 105`
		}
		plays(t, `open / add `+words, `ok 0 0 / `+want)
	}
}

func TestChanging(t *testing.T) { // P20.7: SIZE is the valise's behind the call
	plays(t, `open / add a hello 0 / add b "" 0 / rename a c / delete b / setnote hi / setnote "" / compact / names 9`,
		`ok 0 0 / ok 105 / ok 183 / ok 183 / ok 105 / ok 107 / ok 105 / ok 105 / "c" / ok`)
	plays(t, `open / add a hello 0 / rename a a / rename b c / rename a "/" / rename b a / delete b / read a`, `ok 0 0 / ok 105 / error 151 / error 150 / error 120 / error 150 / error 150 / ok "hello"`)
	long := `"` + strings.Repeat(`PK\x05\x06`, 9) + strings.Repeat(`\x00`, 18) + `"`
	plays(t, `open / setnote `+long+` / note / disk`, `ok 0 0 / error 160 / ok "" / ok 0 0 1`)
	runs(t, []byte(theEnd), 2069, `open / setnote "" / compact / disk`, `ok 0 22 / error 154 / ok 22 / ok 22 0 1`) // a journal needs 22 + 2 * 1024 bytes
	runs(t, []byte(theEnd), 2070, `open / setnote "" / setnote x / disk`, `ok 0 22 / ok 22 / ok 23 / ok 23 12 1`)
}

// damagedFile is an archive of three entries, of which two are damaged.
func damagedFile(t *testing.T) []byte {
	t.Helper()
	how := api.How{Stamp: api.Stamp{Year: 1980, Month: 1, Day: 1}}
	image := byHand(t, func(v *valise.Valise) error {
		return v.Batch(api.Step{Name: "c", Data: []byte("first"), How: how}, api.Step{Name: "b", Data: []byte("second"), How: how}, api.Step{Name: "\u00e9", Data: []byte("third"), How: how})
	})
	return []byte(strings.NewReplacer("first", "worst", "third", "bird!").Replace(string(image)))
}

func TestDamaged(t *testing.T) { // P20.7: verify, read
	image := damagedFile(t)
	runs(t, image, room, `open / verify / read c / read b / read "\xc3\xa9" / disk / scan`,
		`ok 0 274 / "c" / "\xc3\xa9" / ok 2 / error 170 / ok "second" / error 170 / ok 274 0 1 / "b" 0 6 6 b61f1169 1980-01-01T00:00:00 0 "" / ok 1`)
}

func TestScan(t *testing.T) { // P20.7: scan, of whatever the disk holds
	how := api.How{Method: 8, Level: 6, Stamp: api.Stamp{Year: 1999, Month: 12, Day: 31, Hour: 23, Minute: 59, Second: 58}, Mode: 420, Note: "a note"}
	image := byHand(t, func(v *valise.Valise) error {
		return v.Batch(api.Step{Name: "z", Data: []byte("aaaa"), How: how}, api.Step{Name: "a", Data: []byte("aaaa"), How: how})
	})
	z := `"z" 8 4 4 ad98e545 1999-12-31T23:59:58 0 ""` // in the order of their places; the mode and the note stand in the directory
	a := `"a" 8 4 4 ad98e545 1999-12-31T23:59:58 0 ""`
	runs(t, image, room, `scan / open / scan / disk`, z+` / `+a+` / ok 2 / ok 0 `+fmt.Sprint(len(image))+` / `+z+` / `+a+` / ok 2 / ok `+fmt.Sprint(len(image))+` 0 1`)
	runs(t, image[:70], room, `open / scan`, `error 130 / `+z+` / `+a+` / ok 2`)
	runs(t, image[:69], room, `scan`, z+` / ok 1`)
	runs(t, image[1:], room, `scan`, a+` / ok 1`)
	noTime := []byte(strings.ReplaceAll(string(image), "\x7d\xbf\x9f\x27", "\xff\xff\xff\xff"))
	runs(t, noTime, room, `open / stat a / scan`, `ok 0 `+fmt.Sprint(len(image))+` / "a" 8 4 4 ad98e545 0000-00-00T00:00:00 420 "a note" / ok / `+
		`"z" 8 4 4 ad98e545 0000-00-00T00:00:00 0 "" / "a" 8 4 4 ad98e545 0000-00-00T00:00:00 0 "" / ok 2`)
	plays(t, `open / add a x 0 / delete a / scan / add b y 0 / fuse 0 / delete b / scan / crash 0 0 / scan`, // dead or alive, open or not
		`ok 0 0 / ok 101 / ok 22 / ok 0 / ok 101 / ok / error 12 / "b" 0 1 1 fbdb2615 1980-01-01T00:00:00 0 "" / ok 1 / ok 101 / "b" 0 1 1 fbdb2615 1980-01-01T00:00:00 0 "" / ok 1`)
}

func TestDisk(t *testing.T) { // P20.7: fuse, crash, disk
	plays(t, `disk / fuse 2 / open / compact / disk / fuse -1 / disk / crash 1 0 / disk / open / disk`,
		`ok 0 0 1 / ok / ok 0 0 / error 12 / ok 1024 2 0 / ok / ok 1024 2 0 / ok 1024 / ok 1024 0 1 / ok 2 0 / ok 0 2 1`)
	plays(t, `fuse 1 / fuse -1 / open / compact / disk`, `ok / ok / ok 0 0 / ok 22 / ok 22 11 1`)
	plays(t, `fuse 1 / fuse 10 / open / compact / disk`, `ok / ok / ok 0 0 / error 12 / ok 22 10 0`)
	plays(t, `fuse 11 / open / compact / compact / disk / delete a / setnote x / disk`, `ok / ok 0 0 / ok 22 / ok 22 / ok 22 11 1 / error 150 / error 12 / ok 22 11 0`)
	for _, c := range [][2]string{ // the file behind the first call of an update, of two sectors and one size change
		{`0 0`, `ok 0 / ok 0 0`}, {`0 9`, `ok 0 / ok 0 0`}, {`-5 1`, `ok 0 / ok 0 0`}, {`1 0`, `ok 1024 / ok 1 0`}, {`9999999999 -9`, `ok 1024 / ok 1 0`}, {`1 1`, `ok 1024 / ok 2 0`},
		{`1 0 0 1`, `ok 1024 / ok 2 0`}, {`1 0 1`, `ok 1024 / ok 1 0`}, {`1 1 0 0`, `ok 1024 / ok 1 0`}, {`1 1 0`, `ok 1024 / ok 2 0`}, {`1 0 -1 5 7 7 7 7 -7`, `ok 1024 / ok 2 0`},
	} {
		plays(t, `open / fuse 1 / compact / crash `+c[0]+` / open`, `ok 0 0 / ok / error 12 / `+c[1])
	}
	plays(t, `open / crash 0 0 / list / crash 0 0 / open / crash 0 0`, `ok 0 0 / ok 0 / error 201 / ok 0 / ok 0 0 / ok 0`)
}
