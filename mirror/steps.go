package mirror

import (
	"valise/api"
	"valise/field"
)

// changes tells the steps that make entries like what is wanted; isSo tells whether the entry of a want's name is like it. The steps share the wants' data.
func changes(have []api.Info, want []api.Want, isSo func(api.Info, api.Want) bool) ([]api.Step, api.Done) {
	first, last := firstPlaces(have), lastPlaces(want)
	var steps []api.Step
	for i, x := range have {
		if _, isWanted := last[x.Name]; !isWanted && first[x.Name] == i {
			steps = append(steps, api.Step{Kind: api.StepDelete, Name: x.Name})
		}
	}
	done := api.Done{Deleted: len(steps)}
	for i, w := range want {
		if last[w.Name] != i {
			continue
		}
		at, isThere := first[w.Name]
		switch {
		case !isThere:
			done.Added++
		case isSo(have[at], w):
			done.Kept++
			continue
		default:
			done.Replaced++
		}
		steps = append(steps, api.Step{Kind: api.StepAdd, Name: w.Name, Data: w.Data, How: w.How})
	}
	return steps, done
}

// firstPlaces tells which entry of each name counts.
func firstPlaces(have []api.Info) map[string]int {
	places := map[string]int{}
	for i, x := range have {
		if _, isThere := places[x.Name]; !isThere {
			places[x.Name] = i
		}
	}
	return places
}

// lastPlaces tells which want of each name counts.
func lastPlaces(want []api.Want) map[string]int {
	places := map[string]int{}
	for i, w := range want {
		places[w.Name] = i
	}
	return places
}

// same tells whether an entry of a want's name says all that is wanted.
func same(x api.Info, w api.Want) bool {
	stamp := w.How.Stamp
	stamp.Second -= stamp.Second % 2 // archives keep even ones
	return x.Size == len(w.Data) &&
		x.Method == w.How.Method && x.Mode == w.How.Mode && x.Note == w.How.Note && x.Stamp == stamp &&
		x.Sum == field.Sum(w.Data)
}
