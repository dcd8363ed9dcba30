package valise

import (
	"iter"
	"slices"
	"strings"

	"valise/api"
	"valise/record"
)

const (
	madeUnit = 256   // Made is the system that an entry was made on, times this, and a version
	modeUnit = 65536 // External is an entry's mode, times this, where that system has modes
	unix     = 3     // the system that has
)

// List tells all entries, by rising name.
func (v *Valise) List() ([]api.Info, error) {
	a, e := v.archive()
	var list []api.Info
	for _, x := range rising(a.Entries) {
		list = append(list, info(x.Central))
	}
	return list, fault("list", "", e)
}

// Names gives the names, rising.
func (v *Valise) Names() iter.Seq[string] {
	a, _ := v.archive() // of a handle that doesn't answer: one without entries
	var names []string
	for _, x := range rising(a.Entries) {
		names = append(names, x.Name)
	}
	return func(yield func(string) bool) {
		if yield == nil { // no loop hands that in, but a plain call may, and no call panics
			return
		}
		for _, name := range names {
			if !yield(name) {
				return
			}
		}
	}
}

// Stat tells an entry.
func (v *Valise) Stat(name string) (api.Info, error) {
	x, e := v.entry(name)
	if e != api.OK {
		return api.Info{}, fault("stat", name, e)
	}
	return info(x.Central), nil
}

// Note tells the archive's comment.
func (v *Valise) Note() (string, error) {
	a, e := v.archive()
	return a.Comment, fault("note", "", e)
}

// entry tells the entry of a name.
func (v *Valise) entry(name string) (api.Entry, api.Errno) {
	a, e := v.archive()
	if e != api.OK {
		return api.Entry{}, e
	}
	i := position(a.Entries, name)
	if i < 0 {
		return api.Entry{}, api.ErrAbsent
	}
	return a.Entries[i], api.OK
}

// position tells where the entry of a name stands in a list (-1: nowhere).
func position(entries []api.Entry, name string) int {
	return slices.IndexFunc(entries, func(x api.Entry) bool { return x.Name == name })
}

// rising puts entries into the order of their names, of which no two are the same.
func rising(entries []api.Entry) []api.Entry {
	slices.SortFunc(entries, func(x, y api.Entry) int { return strings.Compare(x.Name, y.Name) })
	return entries
}

// info tells what an entry's record says.
func info(c api.Central) api.Info {
	stamp, _ := record.UnpackStamp(c.Date, c.Clock) // the zero one, where they say no time
	i := api.Info{Name: c.Name, Size: c.Size, Packed: c.Packed, Method: c.Method, Sum: c.Sum, Stamp: stamp, Note: c.Comment}
	if c.Made/madeUnit == unix {
		i.Mode = c.External / modeUnit
	}
	return i
}
