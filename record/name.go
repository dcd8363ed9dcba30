package record

import (
	"strings"

	"valise/api"
)

// CheckName tells whether a name may stand in an archive.
func CheckName(name string) api.Errno {
	if len(name) > api.MaxName || !cleanLetters(name) || !cleanParts(name) {
		return api.ErrName
	}
	return api.OK
}

// cleanLetters tells whether a name is UTF-8 without a letter that may not be.
func cleanLetters(name string) bool {
	for i, r := range name {
		if r < 0x20 || r == 0x7f || r == '\\' {
			return false
		}
		if r == '\uFFFD' && !strings.HasPrefix(name[i:], "\uFFFD") { // the rune that ranging tells for a byte that is no UTF-8
			return false
		}
	}
	return true
}

// cleanParts tells whether a name leads down from where it stands, by each of its parts: a name without any letter is one empty part.
func cleanParts(name string) bool {
	for _, part := range strings.Split(strings.TrimSuffix(name, "/"), "/") {
		if part == "" || part == "." || part == ".." {
			return false
		}
	}
	return true
}
