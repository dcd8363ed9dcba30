package record_test

import (
	"slices"
	"strings"
	"testing"
	"unicode/utf8"

	"valise/api"
	"valise/record"
)

func checks(t *testing.T, name string, want api.Errno) {
	t.Helper()
	if e := record.CheckName(name); e != want {
		t.Errorf("CheckName(%.40q) of %d bytes = %d, want %d", name, len(name), e, want)
	}
}

// plainName is CheckName by the chapter's words.
func plainName(name string) api.Errno {
	if len(name) < 1 || len(name) > 65535 || !plainUTF8(name) {
		return api.ErrName
	}
	for i := range len(name) {
		if name[i] < 0x20 || name[i] == 0x7f || name[i] == 0x5c {
			return api.ErrName
		}
	}
	if name[len(name)-1] == '/' {
		name = name[:len(name)-1]
	}
	part := ""
	for i := range len(name) + 1 {
		if i < len(name) && name[i] != '/' {
			part += name[i : i+1]
			continue
		}
		if part == "" || part == "." || part == ".." {
			return api.ErrName
		}
		part = ""
	}
	return api.OK
}

// letter is one of the chapter's kinds of letters: the bounds of each of its bytes.
type letter [][2]byte

var rest = [2]byte{0x80, 0xbf}

var letters = []letter{
	{{0x00, 0x7f}},
	{{0xc2, 0xdf}, rest},
	{{0xe0, 0xe0}, {0xa0, 0xbf}, rest},
	{{0xe1, 0xec}, rest, rest},
	{{0xee, 0xef}, rest, rest},
	{{0xed, 0xed}, {0x80, 0x9f}, rest},
	{{0xf0, 0xf0}, {0x90, 0xbf}, rest, rest},
	{{0xf1, 0xf3}, rest, rest, rest},
	{{0xf4, 0xf4}, {0x80, 0x8f}, rest, rest},
}

// begins tells whether such a letter stands first in a text.
func (l letter) begins(text string) bool {
	if len(text) < len(l) {
		return false
	}
	for i, bounds := range l {
		if text[i] < bounds[0] || text[i] > bounds[1] {
			return false
		}
	}
	return true
}

// plainUTF8 tells whether a text is a row of the chapter's letters.
func plainUTF8(text string) bool {
	for text != "" {
		i := slices.IndexFunc(letters, func(l letter) bool { return l.begins(text) })
		if i < 0 {
			return false
		}
		text = text[len(letters[i]):]
	}
	return true
}

func TestNameBytes(t *testing.T) { // P12.1: each byte alone, behind and ahead of another, and between
	for b := range 256 {
		one := string([]byte{byte(b)})
		ok := b >= 0x20 && b < 0x7f && b != '\\'
		for _, name := range []string{"x" + one + "y", "x/y" + one + "y/z", strings.Repeat("é", 9) + one + "é"} {
			want := api.ErrName
			if ok {
				want = api.OK
			}
			checks(t, name, want)
		}
		for _, name := range []string{one, one + "x", "x" + one, one + one, one + "/", "/" + one, "x/" + one} {
			checks(t, name, plainName(name))
		}
	}
}

func TestNameLetters(t *testing.T) { // P12.1: every letter there is, U+FFFD among them
	for r := rune(0x80); r <= utf8.MaxRune; r++ {
		if r < 0xd800 || r > 0xdfff {
			if e := record.CheckName(string(r)); e != api.OK {
				t.Fatalf("CheckName(%q) = %d", string(r), e)
			}
		}
	}
	for _, name := range []string{"\uFFFD", "a\uFFFD", "\uFFFDa", "\uFFFD\uFFFD", "\uFFFD/\uFFFD/", "\uFFFC\uFFFE\uFFFF", "\uFEFF"} {
		checks(t, name, api.OK)
	}
	for _, name := range []string{"\uFFFD\x80", "\uFFFD\xef", "\uFFFD\xef\xbf", "\xef\uFFFD", "\xef\xbf\uFFFD", "\xff\uFFFD", "\xef\xbf", "\xef", "\xef\xbfa"} {
		checks(t, name, api.ErrName)
	}
}

func TestNamePairs(t *testing.T) { // P12.1: all names of two bytes
	for a := range 256 {
		for b := range 256 {
			name := string([]byte{byte(a), byte(b)})
			if e := record.CheckName(name); e != plainName(name) {
				t.Fatalf("CheckName(%q) = %d", name, e)
			}
		}
	}
}

func TestNameEdges(t *testing.T) { // P12.1: all names of up to four bytes that stand at a bound of the chapter's letters
	edges := []byte("\x00\x1f\x20./a[\\]\x7e\x7f\x80\x8f\x90\x9f\xa0\xbf\xc0\xc1\xc2\xdf\xe0\xe1\xec\xed\xee\xef\xf0\xf1\xf3\xf4\xf5\xff")
	var look func(name []byte)
	look = func(name []byte) {
		if e := record.CheckName(string(name)); e != plainName(string(name)) {
			t.Fatalf("CheckName(%q) = %d", name, e)
		}
		if len(name) == 4 {
			return
		}
		for _, b := range edges {
			look(append(slices.Clip(name), b))
		}
	}
	look(nil)
}

func TestNameParts(t *testing.T) { // P12.1: all names of up to nine letters of these three
	var look func(name string)
	look = func(name string) {
		if e := record.CheckName(name); e != plainName(name) {
			t.Fatalf("CheckName(%q) = %d", name, e)
		}
		if len(name) < 9 {
			look(name + "a")
			look(name + ".")
			look(name + "/")
		}
	}
	look("")
}

func TestNameLong(t *testing.T) { // P12.1: the most bytes, whatever the letters
	for _, unit := range []string{"x", "é", "\uFFFD", "\U0001F600", "ab/", "a/", "...", ".../"} {
		for more := range 9 {
			n := 65531 + more
			name := strings.Repeat("x", n%len(unit)) + strings.Repeat(unit, n/len(unit))
			want := api.OK
			if n > 65535 {
				want = api.ErrName
			}
			checks(t, name, want)
		}
	}
	checks(t, strings.Repeat("x", 65534)+"/", api.OK)
	checks(t, strings.Repeat("x", 65535)+"/", api.ErrName)
	checks(t, strings.Repeat("/", 65535), api.ErrName)
	checks(t, strings.Repeat("../", 21845), api.ErrName)
	checks(t, strings.Repeat("x", 1<<24), api.ErrName)
	checks(t, strings.Repeat("x", 65534)+"\x80", api.ErrName)
	checks(t, strings.Repeat("x", 65534)+"\xc3", api.ErrName)
	checks(t, strings.Repeat("x", 65534)+"\xc3\xa9", api.ErrName) // one byte too many, though few enough letters
}
