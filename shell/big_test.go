package shell_test

import (
	"fmt"
	"strings"
	"testing"

	"valise/api"
	"valise/shell"
)

func TestBigLines(t *testing.T) { // P0.1, P20.1
	const n = 1 << 22
	for _, c := range []struct {
		line  string
		count int
		ok    bool
	}{
		{strings.Repeat(" ", n), 0, true},
		{strings.Repeat("a", n), 1, true},
		{strings.Repeat("a ", n), n, true},
		{strings.Repeat(`"" `, n), n, true},
		{`"` + strings.Repeat("a", n) + `"`, 1, true},
		{`"` + strings.Repeat(`\x41`, n) + `"`, 1, true},
		{`"` + strings.Repeat(`\\`, n) + `"`, 1, true},
		{strings.Repeat(`"`, n), 0, false},
		{`"` + strings.Repeat("a", n), 0, false},
		{`"` + strings.Repeat(`\"`, n), 0, false},
		{`"` + strings.Repeat(`\\`, n), 0, false},
		{strings.Repeat("a ", n) + `"`, 0, false},
		{strings.Repeat("a", n) + `"`, 0, false},
	} {
		if words, ok := shell.Parse(c.line); len(words) != c.count || ok != c.ok {
			t.Errorf("Parse(%.20q ..) = %d words, %v, want %d, %v", c.line, len(words), ok, c.count, c.ok)
		}
	}
}

func TestBigScripts(t *testing.T) { // P0.1
	const n = 1 << 18
	for _, c := range [][2]string{{"\n", ""}, {"# x\n", ""}, {"x\n", "error 200\n"}, {"\"\n", "error 200\n"}, {"list\n", "error 201\n"}, {"fuse 1\n", "ok\n"}, {"disk\n", "ok 0 0 1\n"}, {"crash 1 1 1\n", "ok 0\n"}, {"open\nclose\n", "ok 0 0\nok\n"}} {
		if got, _ := shell.Run(nil, room, strings.Repeat(c[0], n)); got != strings.Repeat(c[1], n) {
			t.Errorf("%q %d times: %.60q ..", c[0], n, got)
		}
	}
	runs(t, nil, room, `open / fuse 1 / compact / crash 1 1`+strings.Repeat(` 0`, n)+` / open`, `ok 0 0 / ok / error 12 / ok 1024 / ok 1 0`)
}

func TestBigTexts(t *testing.T) { // P0.1, P20.3
	text := strings.Repeat("\x00", 1<<21)
	word := strings.Repeat(`\x00`, 1<<21)
	plain := strings.Repeat("text ", 1<<20)
	got, image := shell.Run(nil, api.MaxCapacity, `open
add a "`+word+`" 0
add b "`+plain+`"
read a
read b`)
	if want := fmt.Sprintf("ok 0 0\nok %d\nok %d\nok \"%s\"\nok \"%s\"\n", len(text)+100, len(image), word, plain); got != want {
		t.Errorf("%d bytes, %.80q ..", len(got), got)
	}
	runs(t, nil, api.MaxCapacity, `open / add a `+strings.Repeat("x", api.MaxCapacity+1)+` / disk`, `ok 0 0 / error 153 / ok 0 0 1`)
	runs(t, nil, api.MaxCapacity, `open / add a `+strings.Repeat("x", api.MaxCapacity)+` 0 / disk`, `ok 0 0 / error 154 / ok 0 0 1`)
}

func TestBigNames(t *testing.T) { // P0.1: names and notes of the greatest length, and of one byte more
	long := strings.Repeat("n", 65535)
	runs(t, nil, 1<<20, `open / add `+long+`n x / add `+long+` x 0 / names 9 / rename `+long+` a / rename a `+long+`n / setnote `+long+`n / setnote `+long+` / note / add b x 0 0 1980 1 1 0 0 0 0 `+long+`n`,
		`ok 0 0 / error 120 / ok 131169 / "`+long+`" / ok / ok 101 / error 120 / error 1 / ok 65636 / ok "`+long+`" / error 1`)
}

func TestBigBatch(t *testing.T) { // P0.1: many steps at one stroke
	script, names := "open\nbegin\n", ""
	for i := range 600 {
		script += fmt.Sprintf("add n%04d text\n", i)
		names += fmt.Sprintf("\"n%04d\"\n", i)
	}
	got, image := shell.Run(nil, 1<<20, script+"commit\nnames 9999\n")
	if want := "ok 0 0\n" + strings.Repeat("ok\n", 601) + fmt.Sprintf("ok %d\n", len(image)) + names + "ok\n"; got != want {
		t.Errorf("%d bytes, %.80q ..", len(got), got)
	}
}
