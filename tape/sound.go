package tape

import (
	"strings"

	"valise/api"
)

const (
	kindFile   = 0
	kindLink   = 2
	kindFolder = 5
)

// sound tells whether a tape can hold a file that has so many bytes of data, whichever they are.
func sound(f api.File, size int) bool {
	_, _, ok := cut(f.Name)
	return ok && soundKind(f, size) && soundTexts(f) && soundNumbers(f)
}

// soundKind tells whether a file has what its kind asks for, and nothing that another one would.
func soundKind(f api.File, size int) bool {
	isFolder := strings.HasSuffix(f.Name, "/")
	switch f.Kind {
	case kindFile:
		return !isFolder && f.Link == ""
	case kindLink:
		return !isFolder && f.Link != "" && size == 0
	case kindFolder:
		return isFolder && f.Link == "" && size == 0
	}
	return false
}

// soundTexts tells whether the texts fit their fields, but for the name.
func soundTexts(f api.File) bool {
	return len(f.Link) <= texts[linkText].size &&
		len(f.User) < texts[userText].size && len(f.Team) < texts[teamText].size && // a zero byte stands behind them
		!strings.Contains(f.Name+f.Link+f.User+f.Team, "\x00")
}

// soundNumbers tells whether the numbers fit their fields.
func soundNumbers(f api.File) bool {
	return fits(f.Mode, numbers[modeNumber]) && fits(f.Owner, numbers[ownerNumber]) &&
		fits(f.Group, numbers[groupNumber]) && fits(f.Time, numbers[timeNumber])
}

// fits tells whether a number's octal digits leave one byte of its field.
func fits(v int, p place) bool { return v >= 0 && v < 1<<(3*(p.size-1)) }

// cut tells what of a name stands in the field prefix, and what in the field name; false, if it doesn't fit.
func cut(name string) (prefix, rest string, ok bool) {
	most := texts[nameText].size
	if len(name) <= most {
		return "", name, name != ""
	}
	from := max(1, len(name)-most-1) // a slash ahead of it leaves too much behind it, or nothing ahead
	before, rest, ok := strings.Cut(name[from:], "/")
	prefix = name[:from+len(before)]
	if !ok || rest == "" || len(prefix) > texts[prefixText].size {
		return "", "", false
	}
	return prefix, rest, true
}
