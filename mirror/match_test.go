package mirror_test

import (
	"strings"
	"testing"
	"time"
	"unicode/utf8"

	"valise/api"
	"valise/mirror"
)

func TestAnyLetters(t *testing.T) { // P25.1: `**`
	for _, name := range []string{"", "a", "/", "a/b", "///", "\xff", "é\n", many("a/", 32767)} {
		is(t, "**", name, true)
		is(t, "a**", "a"+name, len(name) < 65535)
		is(t, "a**", name, strings.HasPrefix(name, "a"))
		is(t, "**b", name, strings.HasSuffix(name, "b"))
		is(t, "**/**", name, strings.Contains(name, "/"))
		is(t, "**a**", name, strings.Contains(name, "a"))
	}
}

func TestNoSlash(t *testing.T) { // P25.1: `*`, and `?`
	for name, flat := range map[string]bool{"": true, "a": true, "abc": true, "/": false, "a/": false, "/a": false, "a/b": false, "\xff\xc3": true, "é\x00": true, "\\": true, many("a", 65533): true, many("a", 65532) + "/": false} {
		is(t, "*", name, flat)
		is(t, "x*y", "x"+name+"y", flat)
		is(t, "x*", "x"+name, flat)
		is(t, "*y", name+"y", flat)
		is(t, "*/*", name, strings.Count(name, "/") == 1)
		is(t, "?", name, flat && len(name) == 1)
		is(t, "x?", "x"+name, flat && len(name) == 1)
		is(t, "?*", name, flat && name != "")
		is(t, "*?", name, flat && name != "")
	}
}

func TestStars(t *testing.T) { // P25.1: `**` and what follows it
	for stars := 2; stars < 9; stars++ {
		for _, name := range []string{"", "a", "a/b/c", "/"} {
			is(t, many("*", stars), name, true)
		}
		is(t, "d/"+many("*", stars), "d/e/f", true)
		is(t, many("*", stars)+"/x", "d/e/x", true)
		is(t, many("*", stars)+"/x", "x", false)
		is(t, many("*", stars)+"?", "", false)
	}
	is(t, "*?*", "ab", true)
	is(t, "*\\**", "a*b", true)
	is(t, "**\\*", "a/*", true)
	is(t, "**\\*", "a/b", false)
	is(t, "*[*]*", "a/b", false)
	is(t, "***[*]", "a/*", true)
}

func TestBackAndForth(t *testing.T) { // P25.1: a first cut that fails says nothing of the others
	is(t, "*ab*c", "aab/ab/c", false)
	is(t, "**ab*c", "abx/abyc", true)
	is(t, "**ab*c", "abx/aby/c", false)
	is(t, "**a/*b", "a/c/a/cb", true)
	is(t, "**a/*b/c", "a/b/a/xb/c", true)
	is(t, "*a/**/b", "xa/b", false)
	is(t, "*a/**/b", "xaa//b", true)
	is(t, "**/a*/b**c", "x/a/b/x/ay/bc", true)
	is(t, "**/a*/b*c", "x/a/b/x/ay/bc", true)
	is(t, "**/a*/b*c", "x/a/b/x/ay/b/c", false)
	is(t, "**a**b*c", "b/a/c/b/c", false)
	is(t, "**a**b*c", "b/a/c/b/bc", true)
	is(t, "a*ab", "aaab", true)
	is(t, "a*abab", "aababab", true)
	is(t, "*aab*aab", "aaabaaab", true)
	is(t, "*/x*", "x/y/x", false)
	is(t, "**/x*", "x/y/xz", true)
	is(t, "**x*/*x**", "xx/xx", true)
	is(t, "**/*b*/c", "a/b/b/x/c", false)
	is(t, "**/*b*/c", "a/b/b/xb/c", true)
}

// sequences are the rows of chapter 12, each byte from one to another.
func sequences() [][][2]byte {
	rest := [2]byte{0x80, 0xbf}
	return [][][2]byte{
		{{0x00, 0x7f}}, {{0xc2, 0xdf}, rest}, {{0xe0, 0xe0}, {0xa0, 0xbf}, rest}, {{0xe1, 0xec}, rest, rest}, {{0xee, 0xef}, rest, rest}, {{0xed, 0xed}, {0x80, 0x9f}, rest},
		{{0xf0, 0xf0}, {0x90, 0xbf}, rest, rest}, {{0xf1, 0xf3}, rest, rest, rest}, {{0xf4, 0xf4}, {0x80, 0x8f}, rest, rest},
	}
}

func TestLetters(t *testing.T) { // P25.1: all texts of up to four bytes at the rows' edges
	const edges = "\x00A\x7f\x80\x8f\x90\x9f\xa0\xbf\xc0\xc1\xc2\xdf\xe0\xe1\xec\xed\xee\xef\xf0\xf1\xf3\xf4\xf5\xff"
	texts := []string{""}
	for at := 0; at < len(texts); at++ {
		text := texts[at]
		count := len(plainLetters(text))
		for n := range len(text) + 1 {
			if got, e := mirror.Match(many("?", n), text); got != (n == count) || e != api.OK {
				t.Fatalf("%x as %d letters: %v, %d, want %d", text, n, got, e, count)
			}
		}
		if got, e := mirror.Match(text, text); !got || e != api.OK {
			t.Fatalf("%x is not of itself: %d", text, e)
		}
		for i := 0; len(text) < 4 && i < len(edges); i++ {
			texts = append(texts, text+edges[i:i+1])
		}
	}
}

func TestEachLetter(t *testing.T) { // P25.1: each code point stands for itself, and for no other
	for r := rune(0); r <= 0x10ffff; r++ {
		if !utf8.ValidRune(r) {
			continue
		}
		text := string(r)
		pattern := text
		if r < 128 {
			pattern = "\\" + text
		}
		class := "[" + pattern + "]"
		for _, p := range []string{pattern, class, "?", "*", "**"} {
			if got, e := mirror.Match(p, text); got != (r != '/' || p == pattern || p == "**") || e != api.OK {
				t.Fatalf("Match(%q, %q) = %v, %d", p, text, got, e)
			}
		}
		if r%97 == 0 {
			other := string(r + 1)
			is(t, pattern, other, false)
			is(t, class, other, false)
			is(t, "[!"+pattern+"]", other, other != "/")
			is(t, "[!"+pattern+"]", text, false)
			is(t, "??", text, false)
		}
	}
}

func TestLoneBytes(t *testing.T) { // P25.1: a byte of no sequence is a letter of its own
	for b := 128; b < 256; b++ {
		text := string([]byte{byte(b)})
		is(t, "?", text, true)
		is(t, "*", text, true)
		is(t, "\\"+text, text, true)
		is(t, text+"a", text+"a", true)
		is(t, "["+text+"]", text, true)
		is(t, "[!"+text+"]", text, false)
		is(t, text, string(rune(b)), false)
		is(t, string(rune(b)), text, false)
		is(t, text, "\ufffd", false)
		is(t, "\ufffd", text, false)
		is(t, "["+text+"]", "\ufffd", false)
		is(t, "[\U0010ffff-"+text+"]", text, true)
		is(t, "[\U0010ffff-"+text+"]", "\U0010ffff", true)
		is(t, "[\U0010ffff-"+text+"]", "\U0010fffe", false)
		is(t, "[a-\U0010ffff]", text, false)
		is(t, "[a-"+text+"]", "\U0010ffff", true)
		no(t, "["+text+"-\U0010ffff]", text, api.ErrPattern)
		no(t, "["+text+"-a]", text, api.ErrPattern)
		for other := 128; other < 256; other += 3 {
			is(t, "[\x90-\xe0]", string([]byte{byte(other)}), other >= 0x90 && other <= 0xe0)
			is(t, text, string([]byte{byte(other)}), other == b)
		}
	}
	is(t, "\xc3?", "\xc3\xa9", false) // the two bytes are one letter
	is(t, "\xc3\xa9", "\xc3\xa9", true)
	is(t, "\\\xc3\xa9", "\xc3\xa9", true)
	is(t, "\xc3[\xa9]", "\xc3\xa9", false)
	is(t, "[\xc3\xa9]", "\xc3\xa9", true)
	is(t, "[\xc3\xa9]", "\xc3", false)
	is(t, "???", "\xed\xa0\x80", true)
	is(t, "\xed\xa0\x80", "\xed\xa0\x80", true)
	is(t, "**\xa9", "\xc3\xa9", false)
	is(t, "\xc3**", "\xc3\xa9", false)
	is(t, "\xc3*", "\xc3\xc3\xa9", true)
}

func TestPlainLetters(t *testing.T) { // P25.1: any other letter stands for itself, and a backslash makes any letter one
	for b := range 128 {
		text := string(rune(b))
		if !strings.Contains("*?[\\", text) {
			is(t, text, text, true)
			is(t, "a"+text+"b", "a"+text+"b", true)
			is(t, text, "", false)
			is(t, text, text+text, false)
		}
		for other := range 128 {
			is(t, "\\"+text, string(rune(other)), b == other)
		}
		is(t, "x\\"+text+"y", "x"+text+"y", true)
		is(t, "\\"+text, "\\"+text, false)
	}
	is(t, "a]", "a]", true)
	is(t, "[a]]", "a]", true)
	is(t, "!a-b", "!a-b", true)
	is(t, "\\\\", "\\", true)
	is(t, "\\[a]", "[a]", true)
	is(t, "A", "a", false)
}

func TestClassLetters(t *testing.T) { // P25.1: which letters may be items as they are
	for b := range 128 {
		text := string(rune(b))
		if text == "]" || text == "\\" {
			no(t, "["+text, text, api.ErrPattern)
			no(t, "["+text+"]", text, api.ErrPattern)
			no(t, "[!"+text+"]", text, api.ErrPattern)
			continue
		}
		for other := range 128 {
			name := string(rune(other))
			is(t, "[~"+text+"]", name, name != "/" && (b == other || name == "~"))
			is(t, "[!~"+text+"]", name, name != "/" && b != other && name != "~")
			is(t, "[\\"+text+"]", name, name != "/" && b == other)
			is(t, "[!\\"+text+"]", name, name != "/" && b != other)
			if text != "!" {
				is(t, "["+text+"]", name, name != "/" && b == other)
			}
			if b <= 'y' {
				is(t, "[\\"+text+"-y]", name, name != "/" && b <= other && name <= "y")
			} else {
				no(t, "[\\"+text+"-y]", name, api.ErrPattern)
			}
			if b >= 'B' {
				is(t, "[!B-\\"+text+"]", name, name != "/" && (other < 'B' || other > b))
			} else {
				no(t, "[!B-\\"+text+"]", name, api.ErrPattern)
			}
		}
	}
}

func TestClasses(t *testing.T) { // P25.1
	for class, all := range map[string]string{
		"[abc]": "abc", "[a-c]": "abc", "[ac-e]": "acde", "[a-ce]": "abce", "[a-a]": "a", "[a-bd-e]": "abde",
		"[-]": "-", "[--]": "-", "[---]": "-", "[a-]": "a-", "[-a]": "-a", "[a-c-]": "abc-", "[-a-c]": "-abc", "[a-c-e]": "abc-e", "[a-b--]": "ab-", "[+--]": "+,-", "[--.]": "-.", "[--/]": "-.", "[---a]": "-a",
		"[!-]": "^-", "[!!]": "^!", "[!!-#]": "^!\"#", "[!a-c]": "^abc", "[!-a]": "^-a", "[!a!]": "^a!", "[a!]": "a!", "[\\!]": "!", "[\\!a]": "!a", "[!\\!]": "^!", "[!-#]": "^-#",
		"[\\]]": "]", "[\\]-a]": "]^_`a", "[Y-\\]]": "YZ[\\]", "[\\\\]": "\\", "[\\a-c]": "abc", "[a\\-c]": "a-c", "[a-\\c]": "abc", "[\\--0]": "-.0", "[\\--\\-]": "-", "[[]": "[", "[[-]": "[-", "[[a]": "[a", "[*?]": "*?", "[a/b]": "ab", "[/]": "", "[!/]": "^", "[.-0]": ".0", "[a-a-a]": "a-",
	} {
		letters, turned := strings.CutPrefix(all, "^")
		for b := range 128 {
			name := string(rune(b))
			want := name != "/" && strings.Contains(letters, name) != turned
			is(t, class, name, want)
			is(t, "x"+class+"*", "x"+name, want)
		}
		is(t, class, "", false)
		is(t, class, letters+"xx", false)
	}
	is(t, "[α-ω]", "π", true)
	is(t, "[α-ω]", "Π", false)
	is(t, "[!α-ω]", "Π", true)
	is(t, "[\x00-\xff]", "\xff", true)
	is(t, "[\x00-\xff]", "/", false)
	is(t, "[a][b][c]", "abc", true)
	is(t, "[a][b][c]", "acb", false)
	is(t, "[a]]", "a", false)
}

func TestPatternErrors(t *testing.T) { // P25.1: whatever the name, and wherever it stands
	for _, bad := range []string{
		"\\", "[", "[!", "[a", "[!a", "[]", "[!]", "[a-", "[a-b", "[-", "[--", "[\\", "[\\]", "[a\\", "[a\\]", "[a-\\", "[a-\\]", "[!-", "[!\\]", "[a]\\", "[[]\\",
		"[b-a]", "[b-a", "[b-ac]", "[ca-b-a]"[:0] + "[b-\\a]", "[\\b-a]", "[é-a]", "[\xff-é]", "[\xff-\xfe]", "[a-c-b-a]", "[]a]x[", "[!]a]]["[:5],
	} {
		for _, ahead := range []string{"", "a", "**", "*", "?", "[a]", "\\[", "]"} {
			for _, name := range []string{"", "a", "b", "zzz", "/", bad} {
				no(t, ahead+bad, name, api.ErrPattern)
			}
		}
	}
	no(t, "a[]", "b", api.ErrPattern)
	no(t, "[b-a]**", "", api.ErrPattern)
	no(t, many("*", 65534)+"[", "", api.ErrPattern)
}

func TestTooLong(t *testing.T) { // P25.1: 65535 bytes, not letters
	most, more := many("a", 65535), many("a", 65536)
	is(t, most, most, true)
	is(t, most, most[1:], false)
	is(t, "**", most, true)
	is(t, most, "", false)
	is(t, many("é", 32767)+"a", many("é", 32767)+"a", true)
	is(t, many("?", 32768), many("é", 32767)+"a", true)
	is(t, many("\\é", 21845), many("é", 21845), true)
	for _, other := range []string{"", "a", "[", "\\", most, more, many("é", 32768)} {
		no(t, more, other, api.ErrArg)
		no(t, other, more, api.ErrArg)
		no(t, many("é", 32768), other, api.ErrArg)
		no(t, other, many("é", 32768), api.ErrArg)
		no(t, many("[", 65536), other, api.ErrArg)
	}
}

func TestLongPatterns(t *testing.T) { // P0.1: however many cuts there are
	start := time.Now()
	for _, x := range []struct {
		pattern, name string
		want          bool
	}{
		{many("*a", 32767), many("a", 65535), true},
		{many("*a", 32000) + "b", many("a", 65535), false},
		{many("*a", 32000) + "/", many("a", 65535), false},
		{many("**a", 21845), many("a", 65535), true},
		{many("**a", 21000) + "b", many("a", 65535), false},
		{many("*/", 32767), many("a/", 32767), true},
		{many("*/", 32766), many("a/", 32767), false},
		{many("?", 65535), many("a", 65535), true},
		{many("*?", 32767), many("é", 32767), true},
		{many("**?*/", 13107), many("aa/", 21845), true},
		{many("**[!b]*", 9000), many("é/", 21844) + "é", true},
		{many("**[!b]*", 9000), many("é/", 21845), false},
		{"*" + many("a", 65500) + "b", many("a", 65535), false},
		{"*" + many("a", 65500) + "*", many("a", 65535), true},
		{"**" + many("a", 65500) + "b**", many("a", 65535), false},
		{"**/" + many("*/", 500) + "b/**", many("a/", 32767), false},
		{"**a*" + many("a", 500) + "b**", many("a", 65535), false},
		{"**a*" + many("a", 500) + "/b", many("a", 65533) + "/c", false},
		{many("*", 65535), many("/", 65535), true},
		{"*[" + many("b", 65000) + "]", many("a", 10000), false},
		{many("[a-z]", 13107), many("q", 13107), true},
	} {
		is(t, x.pattern, x.name, x.want)
	}
	if took := time.Since(start); took > time.Minute {
		t.Errorf("it took %v", took)
	}
}
