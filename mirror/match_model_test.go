package mirror_test

import (
	"maps"
	"math/rand"
	"path"
	"regexp"
	"slices"
	"strings"
	"testing"

	"valise/api"
	"valise/mirror"
)

// textsOf are all texts of up to so many of these letters.
func textsOf(letters string, most int) []string {
	texts := []string{""}
	for at := 0; at < len(texts); at++ {
		if len([]rune(texts[at])) < most {
			for _, letter := range letters {
				texts = append(texts, texts[at]+string(letter))
			}
		}
	}
	return texts
}

// agree asks Match for what the model says of each of these patterns and names, and tells how often it said what.
func agree(t *testing.T, patterns, names []string) (yes, not, bad int) {
	t.Helper()
	for _, pattern := range patterns {
		parts, ok := plainParts(plainLetters(pattern))
		for _, name := range names {
			got, e := mirror.Match(pattern, name)
			switch {
			case !ok:
				bad++
				if got || e != api.ErrPattern {
					t.Fatalf("Match(%q, %q) = %v, %d, want an error", pattern, name, got, e)
				}
				continue
			case got:
				yes++
			default:
				not++
			}
			if want := plainCut(parts, plainLetters(name)); got != want || e != api.OK {
				t.Fatalf("Match(%q, %q) = %v, %d, want %v", pattern, name, got, e, want)
			}
		}
	}
	return yes, not, bad
}

func TestShortPatterns(t *testing.T) { // P25.1: all of them
	yes, not, bad := agree(t, textsOf("*?[]-!\\/a", 5), append(textsOf("/a-", 2), "aaa", "a/a", "-/-"))
	if min(yes, not, bad) < 3000 {
		t.Errorf("%d, %d, %d", yes, not, bad)
	}
}

func TestShortClasses(t *testing.T) { // P25.1: all of them
	var patterns []string
	for _, class := range textsOf("]-!\\acé", 5) {
		patterns = append(patterns, "["+class+"]")
	}
	agree(t, patterns, textsOf("]-!\\abcd/é,", 1))
}

func TestStarsAndSlashes(t *testing.T) { // P25.1: all short ones
	agree(t, textsOf("*/ab", 6), textsOf("/ab", 4))
}

func TestDrawnStars(t *testing.T) { // P25.1: long ones
	from := rand.New(rand.NewSource(2501))
	draw := func(pieces []string, most int) string {
		var text strings.Builder
		for range from.Intn(most) {
			text.WriteString(pieces[from.Intn(len(pieces))])
		}
		return text.String()
	}
	yes := 0
	for range 120000 {
		patterns := []string{draw([]string{"*", "**", "*/", "**/", "/", "a", "b", "?", "[a]", "[!a]", "a*", "b/"}, 10)}
		n, _, _ := agree(t, patterns, []string{draw([]string{"a", "b", "/", "a/", "aa", "ab/"}, 14), draw([]string{"a", "b", "/", "a/"}, 20)})
		yes += n
	}
	if yes < 10000 {
		t.Errorf("%d were of their pattern", yes)
	}
}

func TestDrawnBytes(t *testing.T) { // P25.1: any bytes
	from := rand.New(rand.NewSource(2502))
	pieces := []string{"*", "?", "[", "[!", "]", "-", "\\", "/", "a", "é", "\xc3", "\xa9", "\xff", "\xe2\x82", "\xac", "€", "\ufffd", "\U0010ffff"}
	draw := func(from *rand.Rand, most int) string {
		var text strings.Builder
		for range from.Intn(most) {
			text.WriteString(pieces[from.Intn(len(pieces))])
		}
		return text.String()
	}
	var all [3]int
	for range 150000 {
		pattern := draw(from, 8)
		yes, not, bad := agree(t, []string{pattern}, []string{pattern, draw(from, 4), draw(from, 6), strings.ReplaceAll(pattern, "*", "")})
		all[0], all[1], all[2] = all[0]+yes, all[1]+not, all[2]+bad
	}
	if min(all[0], all[1], all[2]) < 20000 {
		t.Errorf("%d", all)
	}
}

func TestRegexpWitness(t *testing.T) { // P25.1: Go's own regular expressions, for well-formed names
	from := rand.New(rand.NewSource(2503))
	pieces := map[string]string{
		"*": `[^/]*`, "**": `(?s:.*)`, "?": `[^/]`, "/": `/`, "a": `a`, "é": `é`, "\\*": `\*`, "\\\\": `\\`, "]": `\]`, "-": `-`, ".": `\.`,
		"[a-c]": `[a-c]`, "[!a-c]": `[^a-c/]`, "[é-ü]": `[é-ü]`, "[!é]": `[^é/]`, "[a-]": `[a-]`, "[\\]!]": `[\]!]`, "[+-0]": `[+-.0]`, "[!!]": `[^!/]`, "[.-]": `[.-]`, "[a/]": `a`, "\\/": `/`,
	}
	keys := slices.Sorted(maps.Keys(pieces))
	letters := []string{"a", "b", "/", "é", "ö", "*", "\\", "]", "-", ".", "!", "\n", "a/b", "aa"}
	yes := 0
	for range 30000 {
		pattern, spelt := "", ""
		for range from.Intn(7) {
			key := keys[from.Intn(len(keys))]
			if !strings.HasSuffix(pattern, "*") || key[0] != '*' { // two stars would be another part
				pattern, spelt = pattern+key, spelt+pieces[key]
			}
		}
		compiled := regexp.MustCompile(`\A(?:` + spelt + `)\z`)
		for range 20 {
			name := ""
			for range from.Intn(7) {
				name += letters[from.Intn(len(letters))]
			}
			want := compiled.MatchString(name)
			if want {
				yes++
			}
			is(t, pattern, name, want)
		}
	}
	if yes < 10000 {
		t.Errorf("%d were of their pattern", yes)
	}
}

func TestPathWitness(t *testing.T) { // P25.1: Go's own path.Match, without classes and `**`, where the two say the same
	from := rand.New(rand.NewSource(2504))
	draw := func(pieces []string) string {
		text := ""
		for range from.Intn(8) {
			text += pieces[from.Intn(len(pieces))]
		}
		return text
	}
	for range 300000 {
		pattern, name := draw([]string{"*", "?", "/", "a", "b", "é", "\\a", "\\*", "]", "-"}), draw([]string{"a", "b", "/", "é", "*", "]", "-"})
		if strings.Contains(pattern, "**") {
			continue
		}
		want, err := path.Match(pattern, name)
		goes(t, err)
		is(t, pattern, name, want)
	}
}
