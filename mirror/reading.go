package mirror

// reading is what is left of a pattern while it is read. Its methods answer false where it can't be read on.
type reading struct{ rest []int }

// passes goes past a letter, if it is the next one.
func (r *reading) passes(letter int) bool {
	if len(r.rest) == 0 || r.rest[0] != letter {
		return false
	}
	r.rest = r.rest[1:]
	return true
}

// part takes the next part.
func (r *reading) part() (part, bool) {
	switch {
	case r.passes('*'):
		if r.passes('*') {
			return part{test: anyLetter, many: true}, true
		}
		return part{test: notSlash, many: true}, true
	case r.passes('?'):
		return part{test: notSlash}, true
	case r.passes('['):
		test, ok := r.class()
		return part{test: test}, ok
	}
	letter, ok := r.letter()
	return part{test: just(letter)}, ok
}

// class takes what is left of a class behind its front.
func (r *reading) class() (func(int) bool, bool) {
	turned := r.passes('!')
	var class []span
	for !r.passes(']') {
		s, ok := r.item()
		if !ok {
			return nil, false
		}
		class = append(class, s)
	}
	return oneOf(class, turned), len(class) > 0
}

// item takes an item of a class, which goes on behind it.
func (r *reading) item() (span, bool) {
	from, ok := r.letter()
	if !ok || !r.ranges() {
		return span{from, from}, ok
	}
	to, ok := r.letter()
	return span{from, to}, ok && from <= to
}

// ranges goes past a `-`, if one comes that makes a range.
func (r *reading) ranges() bool {
	isLetter := len(r.rest) > 1 && r.rest[1] == ']' // the class's last one
	return !isLetter && r.passes('-')
}

// letter takes a letter, or a backslash and the letter that it makes one of.
func (r *reading) letter() (int, bool) {
	r.passes('\\')
	if len(r.rest) == 0 {
		return 0, false
	}
	letter := r.rest[0]
	r.rest = r.rest[1:]
	return letter, true
}
