package shell

import (
	"strconv"
	"strings"

	"valise/api"
	"valise/record"
	"valise/salvage"
)

const (
	decimal   = 10
	yearWidth = 4
	timeWidth = 2 // of all parts of a time but the year
	sumWidth  = 8
)

// okLine tells that a command went well, and the numbers that it answers.
func okLine(numbers ...int) string {
	line := "ok"
	for _, n := range numbers {
		line += " " + strconv.Itoa(n)
	}
	return line + "\n"
}

// okText tells that a command went well, and the text that it answers.
func okText(text string) string { return "ok " + quoted(text) + "\n" }

// list tells all entries.
func (s *session) list(order) (string, error) {
	entries, err := s.archive.List()
	return entryLines(entries) + okLine(len(entries)), err
}

// names tells the first names, as many as are wanted.
func (s *session) names(o order) (string, error) {
	left := o.numbers[0]
	if left < 1 {
		return okLine(), nil
	}
	var lines strings.Builder
	for name := range s.archive.Names() {
		lines.WriteString(quoted(name) + "\n")
		left--
		if left == 0 {
			break
		}
	}
	return lines.String() + okLine(), nil
}

// stat tells an entry.
func (s *session) stat(o order) (string, error) {
	entry, err := s.archive.Stat(o.texts[0])
	return entryLine(entry) + okLine(), err
}

// read tells an entry's text.
func (s *session) read(o order) (string, error) {
	text, err := s.archive.Read(o.texts[0])
	return okText(string(text)), err
}

// note tells the archive's comment.
func (s *session) note(order) (string, error) {
	text, err := s.archive.Note()
	return okText(text), err
}

// verify tells the names of the entries that are damaged.
func (s *session) verify(order) (string, error) {
	names, err := s.archive.Verify()
	var lines strings.Builder
	for _, name := range names {
		lines.WriteString(quoted(name) + "\n")
	}
	return lines.String() + okLine(len(names)), err
}

// scan tells the entries that stand in the file, whatever its directory says.
func (s *session) scan(order) (string, error) {
	found, e := salvage.Scan(s.disk.Image())
	if e != api.OK {
		return "", e
	}
	var entries []api.Info
	for _, x := range found {
		entries = append(entries, scanned(x.Local))
	}
	return entryLines(entries) + okLine(len(entries)), nil
}

// scanned tells what a local header says of an entry: a mode and a note stand only in the directory.
func scanned(l api.Local) api.Info {
	stamp, _ := record.UnpackStamp(l.Date, l.Clock) // the zero one, where they say no time
	return api.Info{Name: l.Name, Size: l.Size, Packed: l.Packed, Method: l.Method, Sum: l.Sum, Stamp: stamp}
}

// entryLines tells entries, a line each.
func entryLines(entries []api.Info) string {
	var lines strings.Builder
	for _, x := range entries {
		lines.WriteString(entryLine(x))
	}
	return lines.String()
}

// entryLine tells an entry.
func entryLine(x api.Info) string {
	return strings.Join([]string{
		quoted(x.Name),
		strconv.Itoa(x.Method),
		strconv.Itoa(x.Size),
		strconv.Itoa(x.Packed),
		padded(int(x.Sum), hexBase, sumWidth),
		timeOf(x.Stamp),
		strconv.Itoa(x.Mode),
		quoted(x.Note),
	}, " ") + "\n"
}

// timeOf tells a time.
func timeOf(s api.Stamp) string {
	day := padded(s.Year, decimal, yearWidth) + "-" + padded(s.Month, decimal, timeWidth) + "-" + padded(s.Day, decimal, timeWidth)
	return day + "T" + padded(s.Hour, decimal, timeWidth) + ":" + padded(s.Minute, decimal, timeWidth) + ":" + padded(s.Second, decimal, timeWidth)
}
