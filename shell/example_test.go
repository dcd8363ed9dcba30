package shell_test

import "testing"

func TestExamples(t *testing.T) { // the chapter's
	plays(t, `open / add a hello 0 / stat a / read a / disk`, `ok 0 0 / ok 105 / "a" 0 5 5 3610a686 1980-01-01T00:00:00 0 "" / ok / ok "hello" / ok 105 11 1`)
	plays(t, `list`, `error 201`)
	plays(t, `lst`, `error 200`)
	plays(t, `open 1`, `error 200`)
	plays(t, `open / add "a b" "x\x00\"" 0 / read "a b"`, `ok 0 0 / ok 107 / ok "x\x00\""`)
	plays(t, `# a note`, ``)
	plays(t, `     `, ``)
	plays(t, `open / fuse 0 / add a x / list / crash 0 0 / open / list`, `ok 0 0 / ok / error 12 / error 12 / ok 0 / ok 0 0 / ok 0`)
	plays(t, `open / begin / add a x 0 / add b y 0 / list / commit / names 9 / commit`, `ok 0 0 / ok / ok / ok / ok 0 / ok 180 / "a" / "b" / ok / error 201`)
}

func TestWholeExamples(t *testing.T) { // the document's ten
	plays(t, `open / list / disk`, `ok 0 0 / ok 0 / ok 0 0 1`)
	plays(t, `open / add a hello 0 / read a`, `ok 0 0 / ok 105 / ok "hello"`)
	plays(t, `open / add a aaaa / stat a`, `ok 0 0 / ok 104 / "a" 8 4 4 ad98e545 1980-01-01T00:00:00 0 "" / ok`)
	plays(t, `open / add a hello 0 / add b "" 0 / delete a / compact / compact / disk`, `ok 0 0 / ok 105 / ok 183 / ok 136 / ok 100 / ok 100 / ok 100 47 1`)
	plays(t, `open / add ../a x / read a / delete a / rename a b`, `ok 0 0 / error 120 / error 150 / error 150 / error 150`)
	for _, c := range []string{`1 1`, `0 0`, `0 9`, `1 0`, `1 9 0 0 1`, `9 0 9 9 9 9`} { // whatever the crash keeps
		plays(t, `open / add a x 0 / fuse 3 / add b y 0 / crash `+c+` / open / names 9`, `ok 0 0 / ok 101 / ok / error 12 / ok 2149 / ok 2 101 / "a" / ok`)
	}
	plays(t, `open / add a x 0 / fuse 9 / add b y 0 / crash 0 0 / open / names 9`, `ok 0 0 / ok 101 / ok / error 12 / ok 2149 / ok 3 101 / "a" / ok`)
	plays(t, `open / add a x 0 / fuse 9 / add b y 0 / crash 0 1 / open / names 9`, `ok 0 0 / ok 101 / ok / error 12 / ok 2149 / ok 4 180 / "a" / "b" / ok`)
	plays(t, `open / begin / add a x 0 / add b y 0 / commit / names 9`, `ok 0 0 / ok / ok / ok / ok 180 / "a" / "b" / ok`)
	plays(t, `open 1 3 / add a wxyz / add a wxy / add b x / add a ""`, `ok 0 0 / error 153 / ok 105 / error 152 / ok 102`)
	plays(t, `list / lst / open / open`, `error 201 / error 200 / ok 0 0 / error 202`)
}

func TestExampleReadme(t *testing.T) { // what README.md says
	plays(t, `open / add a hello 0 / add "b b" "x\x00\"" 8 9 2026 11 18 9 24 30 420 "of it" / stat "b b" / read a / begin / rename a c / delete "b b" / commit / names 9 / fuse 3 / delete c / crash 0 0 / open / read a / disk`,
		`ok 0 0 / ok 105 / ok 197 / "b b" 8 3 5 70c3a11e 2026-11-18T09:24:30 420 "of it" / ok / ok "hello" / ok / ok / ok / ok 105 / "c" / ok / ok / error 12 / ok 2153 / ok 2 105 / error 150 / ok 105 2 1`)
	parses(t, `read "b b"`, []string{"read", "b b"}, true)
}
