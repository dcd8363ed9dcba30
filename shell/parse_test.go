package shell_test

import (
	"fmt"
	"math/rand"
	"regexp"
	"slices"
	"strconv"
	"strings"
	"testing"

	"valise/shell"
)

// A line and a word of it by the chapter's words, over letters that each stand for the byte of their number.
var (
	aWord = `(?:[\x21\x23-\x7e]+|"(?:[\x20\x21\x23-\x5b\x5d-\xff]|\\"|\\\\|\\x[0-9a-fA-F]{2})*")`
	aLine = regexp.MustCompile(`^ *(?:` + aWord + `(?: +` + aWord + `)*)? *$`)
	words = regexp.MustCompile(aWord)
	codes = regexp.MustCompile(`\\(?:"|\\|x..)`)
)

// letters is a text of a letter for each byte.
func letters(text string) string {
	out := []rune{}
	for i := range len(text) {
		out = append(out, rune(text[i]))
	}
	return string(out)
}

// textOf is the text of which letters says the bytes.
func textOf(letters string) string {
	out := []byte{}
	for _, r := range letters {
		out = append(out, byte(r))
	}
	return string(out)
}

// plainParse is Parse by the chapter's words.
func plainParse(line string) ([]string, bool) {
	text := letters(line)
	if !aLine.MatchString(text) {
		return nil, false
	}
	var out []string
	for _, word := range words.FindAllString(text, -1) {
		if word[0] == '"' {
			word = codes.ReplaceAllStringFunc(word[1:len(word)-1], func(code string) string {
				if code[1] != 'x' {
					return code[1:]
				}
				n, _ := strconv.ParseInt(code[2:], 16, 0)
				return string(rune(n))
			})
		}
		out = append(out, textOf(word))
	}
	return out, true
}

// parses asks what Parse answers.
func parses(t *testing.T, line string, want []string, wantOK bool) {
	t.Helper()
	if got, ok := shell.Parse(line); ok != wantOK || !slices.Equal(got, want) || got != nil && len(got) == 0 {
		t.Errorf("Parse(%q) = %q, %v, want %q, %v", line, got, ok, want, wantOK)
	}
}

func TestParse(t *testing.T) { // P20.1
	for _, c := range []struct {
		line string
		want []string
	}{
		{``, nil},
		{` `, nil},
		{`    `, nil},
		{`a`, []string{"a"}},
		{` a`, []string{"a"}},
		{`a `, []string{"a"}},
		{`  a   bc  `, []string{"a", "bc"}},
		{`# a`, []string{"#", "a"}}, // that a script's line has no answer then is P20.2's
		{`!~`, []string{"!~"}},
		{`a\b \x41 \`, []string{`a\b`, `\x41`, `\`}}, // a backslash in a bare word stands for itself
		{`""`, []string{""}},
		{`"" ""`, []string{"", ""}},
		{`"a b"`, []string{"a b"}},
		{`  "  "  `, []string{"  "}},
		{`"a" b "c"`, []string{"a", "b", "c"}},
		{`"\""`, []string{`"`}},
		{`"\\"`, []string{`\`}},
		{`"\\x41"`, []string{`\x41`}},
		{`"\x00\x0a\x7F\xfF\xFf"`, []string{"\x00\n\x7f\xff\xff"}},
		{`"\x412"`, []string{"A2"}},
		{"\"\x7f\x80\xff\u00e9\"", []string{"\x7f\x80\xff\u00e9"}},
		{"\"\xc3\" \"\xa9\"", []string{"\xc3", "\xa9"}},
	} {
		parses(t, c.line, c.want, true)
	}
	for _, line := range []string{
		`"`, `a"`, `a"b"`, `"a"b`, `"a""b"`, `"""`, `"a`, `a "b`, `"\"`, `"\`, `"\\\"`, `"\n"`, `"\X41"`, `"\x"`, `"\x4"`, `"\x4`, `"\x41`, `"\x4g"`, `"\xg4"`, `"\x+4"`, `"\x-4"`, `"\x_4"`, `"\x 4"`, `"\x0x41`,
		"\t", "a\tb", "a\n", "\r", "\x00", "\x1f", "\x7f", "a\x7f", "\x80", "\xff", "\u00e9", "\"\t\"", "\"\n\"", "\"\x00\"", "\"\x1f\"", "\"a\"\t", "\"a\"\n", "\"a\"\x00",
	} {
		parses(t, line, nil, false)
	}
}

func TestParseBytes(t *testing.T) { // P20.1: each byte, at each place
	for n := range 256 {
		b := string([]byte{byte(n)})
		for _, form := range []string{`_`, `a_`, `_a`, `a _`, `"_"`, `"a_`, `"a"_`, `"a"_b`, `"\_"`, `"\x4_"`, `"\x_4"`, `"\_41"`, `"a\`, `_"a"`} {
			line := strings.Replace(form, "_", b, 1)
			want, ok := plainParse(line)
			parses(t, line, want, ok)
		}
	}
}

// allOf gives all texts of these bytes up to that length.
func allOf(bytes string, length int, yield func(string)) {
	yield("")
	if length == 0 {
		return
	}
	for i := range len(bytes) {
		allOf(bytes, length-1, func(rest string) { yield(bytes[i:i+1] + rest) })
	}
}

func TestParseAll(t *testing.T) { // P20.1: all short lines
	count := map[string]int{}
	allOf(" \"\\x4a\x1f\x80", 6, func(line string) {
		want, ok := plainParse(line)
		count[fmt.Sprint(len(want), ok)]++
		parses(t, line, want, ok)
	})
	for _, what := range []string{"0 false", "0 true", "1 true", "2 true", "3 true"} {
		if count[what] == 0 {
			t.Errorf("no line of %s: %v", what, count)
		}
	}
}

func TestParseDrawn(t *testing.T) { // P20.1: long lines
	from := rand.New(rand.NewSource(201))
	parts := []string{` `, ` `, `  `, `a`, `bare`, `"quoted word"`, `""`, `"\x41\x0`, `f"`, `"`, `"`, `\"`, `\\`, `\`, `\xFf`, `"\"\\"`, "\x7f", "\xff", "\"\xff\"", "\n"}
	rights := 0
	for range 200000 {
		var line strings.Builder
		for range from.Intn(12) {
			line.WriteString(parts[from.Intn(len(parts))])
		}
		want, ok := plainParse(line.String())
		if ok {
			rights++
		}
		parses(t, line.String(), want, ok)
	}
	if rights < 20000 {
		t.Errorf("%d lines", rights)
	}
}

// asQuoted tells a text as a quoted word, by the chapter's words.
func asQuoted(text string) string {
	out := `"`
	for i := range len(text) {
		switch {
		case strings.Contains(`"\`, text[i:i+1]):
			out += `\` + text[i:i+1]
		case text[i] < 32 || text[i] > 126:
			out += fmt.Sprintf(`\x%02x`, text[i])
		default:
			out += text[i : i+1]
		}
	}
	return out + `"`
}

func TestQuoted(t *testing.T) { // P20.3: each byte, in texts, names and notes, and back
	all := ""
	for n := range 256 {
		all += string([]byte{byte(n)})
	}
	word := asQuoted(all)
	parses(t, word, []string{all}, true)
	image := plays(t, `open / add a `+word+` 0 / read a / setnote `+word+` / note / add b "" 0 0 1980 1 1 0 0 0 0 `+word+` / stat b`,
		`ok 0 0 / ok 356 / ok `+word+` / ok 612 / ok `+word+` / ok 946 / "b" 0 0 0 00000000 1980-01-01T00:00:00 0 `+word+` / ok`)
	runs(t, image, room, `open / read a / note`, `ok 0 946 / ok `+word+` / ok `+word)
	name := "!\"#~ \u00e9\u007e\U0001f600"
	line := asQuoted(name)
	plays(t, `open / add `+line+` x 0 / names 1 / stat `+line+` / scan / delete `+line,
		`ok 0 0 / ok `+fmt.Sprint(99+2*len(name))+` / `+line+` / ok / `+line+` 0 1 1 8cdc1683 1980-01-01T00:00:00 0 "" / ok / `+line+` 0 1 1 8cdc1683 1980-01-01T00:00:00 0 "" / ok 1 / ok 22`)
}

func TestNumbers(t *testing.T) { // P20.4
	for _, word := range []string{`0`, `-0`, `1`, `-1`, `0000000003`, `-0000000003`, `9999999999`, `-9999999999`, `"5"`, `"\x35"`} {
		plays(t, `fuse `+word, `ok`)
	}
	for _, word := range []string{`""`, `-`, `--1`, `+1`, `1-`, `1a`, `a`, `0x1`, `1.0`, `1e3`, `1_0`, `" 1"`, `"1 "`, `00000000001`, `-00000000001`, `12345678901`, `99999999999999999999999`, `"\x00"`, `"\xd9\xa1"`, `-a`} {
		plays(t, `fuse `+word, `error 200`)
	}
	plays(t, `open / add a x 0 / add b x 0 / add c x 0 / names 0002 / names "1" / names -1 / names 9999999999`, `ok 0 0 / ok 101 / ok 180 / ok 259 / "a" / "b" / ok / "a" / ok / ok / "a" / "b" / "c" / ok`)
}
