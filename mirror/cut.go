package mirror

// cuts tells whether a name can be cut, from front to end, into what the parts stand for. It goes through the letters once, with all parts at which cuts of the letters so far may go on, the last one first: so it makes no more tests than letters times parts, however many cuts there are.
func cuts(parts []part, name []int) bool {
	var was []int
	is := reach(nil, parts, 0)
letters:
	for i, letter := range name {
		was, is = is, was[:0]
		last := len(parts) // a cut that has only come to a part behind this one is left: another one reaches all that it could
		for _, at := range was {
			if last < 0 || parts[at].need > len(name)-i {
				continue letters // the same is so of all parts ahead of this one
			}
			if at > last || !parts[at].test(letter) {
				continue
			}
			if !parts[at].many {
				at++
			}
			is = reach(is, parts, at)
			if parts[at].many {
				last = parts[at].back
			}
		}
	}
	return len(is) > 0 && is[0] == len(parts)-1
}

// reach adds a part to those at which cuts may go on, and the one behind it, if no letter has to come for this one.
func reach(list []int, parts []part, at int) []int {
	if parts[at].many {
		list = append(list, at+1)
	}
	return append(list, at)
}
