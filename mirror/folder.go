package mirror

import (
	"strings"

	"valise/api"
	"valise/record"
)

// trimmed is a folder without a slash at its end.
func trimmed(folder string) string { return strings.TrimSuffix(folder, "/") }

// frontOf is what all names in a folder begin with.
func frontOf(folder string) string {
	folder = trimmed(folder)
	if folder == "" {
		return ""
	}
	return folder + "/"
}

// isIn tells whether a name is in the folder with that front.
func isIn(name, front string) bool {
	return len(name) > len(front) && strings.HasPrefix(name, front)
}

// child cuts a name behind the first slash that stands behind a front.
func child(name, front string) string {
	below, _, isDeeper := strings.Cut(name[len(front):], "/")
	if !isDeeper {
		return name
	}
	return name[:len(front)+len(below)+len("/")]
}

// refusal tells why a folder of so many entries can't get another name.
func refusal(from, to string, count int) api.Errno {
	from, to = trimmed(from), trimmed(to)
	switch {
	case record.CheckName(from) != api.OK || record.CheckName(to) != api.OK:
		return api.ErrName
	case count == 0:
		return api.ErrAbsent
	case to == from || isIn(to, frontOf(from)):
		return api.ErrTaken
	}
	return api.OK
}

// moves tells the steps that give all entries of a folder another one. Where no archive has room for so many long names it stops: the batch is refused by then, and they would take far more memory than the archive.
func moves(have []api.Info, from, to string) []api.Step {
	front, target := frontOf(from), trimmed(to)+"/"
	room := api.MaxCapacity
	var steps []api.Step
	for _, x := range have {
		rest, isThere := strings.CutPrefix(x.Name, front)
		if !isThere {
			continue
		}
		if room < 0 {
			break
		}
		s := api.Step{Kind: api.StepRename, Name: x.Name, To: target + rest}
		steps = append(steps, s)
		room -= len(s.To)
	}
	return steps
}
