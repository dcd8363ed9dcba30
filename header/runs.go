package header

import "valise/api"

// Runs tells a list of code lengths as runs.
func Runs(lens []int) ([]api.Run, api.Errno) {
	if !codeLengths(lens) {
		return nil, api.ErrArg
	}
	var runs []api.Run
	at := 0
places:
	for at < len(lens) {
		for _, sym := range [...]int{manyZeros, fewZeros, repeat} {
			if n := reach(sym, lens, at); n >= least[sym] {
				runs = append(runs, api.Run{Sym: sym, Count: n})
				at += n
				continue places
			}
		}
		runs = append(runs, api.Run{Sym: lens[at], Count: 1})
		at++
	}
	return runs, api.OK
}

// Expand tells the code lengths of runs.
func Expand(runs []api.Run) ([]int, api.Errno) {
	total := 0
	for _, run := range runs {
		if run.Sym < 0 || run.Sym >= smallSymbols || run.Count < least[run.Sym] || run.Count > most(run.Sym) {
			return nil, api.ErrHeadRun
		}
		if run.Sym == repeat && total == 0 {
			return nil, api.ErrHeadRepeat
		}
		total += run.Count
	}
	lens := make([]int, 0, total)
	for _, run := range runs {
		lens = lay(lens, run)
	}
	return lens, api.OK
}

// codeLengths tells whether all of a list are code lengths.
func codeLengths(lens []int) bool {
	for _, n := range lens {
		if n < 0 || n > api.MaxBits {
			return false
		}
	}
	return true
}

// reach tells for how many lengths from the place on one run of the Sym could stand.
func reach(sym int, lens []int, at int) int {
	if sym == repeat && at == 0 {
		return 0
	}
	v := meant(sym, lens[:at])
	rest := lens[at:min(at+most(sym), len(lens))]
	for n, length := range rest {
		if length != v {
			return n
		}
	}
	return len(rest)
}

// lay lays a run's lengths behind those that are there.
func lay(lens []int, run api.Run) []int {
	v := meant(run.Sym, lens)
	for range run.Count {
		lens = append(lens, v)
	}
	return lens
}

// meant tells which length a run of the Sym stands for. A repeat has at least one ahead of it.
func meant(sym int, ahead []int) int {
	switch {
	case sym < repeat:
		return sym
	case sym == repeat:
		return ahead[len(ahead)-1]
	}
	return 0
}
