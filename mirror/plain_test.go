package mirror_test

import (
	"slices"
	"strings"

	"valise/api"
)

// What stands here is the chapter word for word, with no thought of cost.

// plainLetters cuts a text into the numbers of its letters.
func plainLetters(text string) []int {
	var out []int
	for len(text) > 0 {
		number, size := 1114112+int(text[0]), 1
		for _, row := range sequences() {
			fits := len(text) >= len(row)
			for i := 0; fits && i < len(row); i++ {
				fits = text[i] >= row[i][0] && text[i] <= row[i][1]
			}
			if fits {
				number, size = int([]rune(text[:len(row)])[0]), len(row)
			}
		}
		out = append(out, number)
		text = text[size:]
	}
	return out
}

// plainPart is a part of a pattern, by its kind: 'd' any letters, 's' any letters but slashes, 'c' one letter that is (not) of the class, and not a slash, 'l' the letter of the class.
type plainPart struct {
	kind  rune
	not   bool
	class [][2]int
}

// plainParts reads a pattern; false, if it can't be read.
func plainParts(p []int) ([]plainPart, bool) {
	if len(p) == 0 {
		return nil, true
	}
	var part plainPart
	size := 1
	switch {
	case len(p) >= 2 && p[0] == '*' && p[1] == '*':
		part, size = plainPart{kind: 'd'}, 2
	case p[0] == '*':
		part = plainPart{kind: 's'}
	case p[0] == '?':
		part = plainPart{kind: 'c', not: true}
	case p[0] == '[':
		if part, size = plainClass(p); size == 0 {
			return nil, false
		}
	case p[0] == '\\':
		if len(p) == 1 {
			return nil, false
		}
		part, size = plainPart{kind: 'l', class: [][2]int{{p[1], p[1]}}}, 2
	default:
		part = plainPart{kind: 'l', class: [][2]int{{p[0], p[0]}}}
	}
	rest, ok := plainParts(p[size:])
	return append([]plainPart{part}, rest...), ok
}

// plainClass reads a class, and tells how many letters it takes; 0, if it can't be read.
func plainClass(p []int) (plainPart, int) {
	at := 1
	part := plainPart{kind: 'c'}
	if at < len(p) && p[at] == '!' {
		part.not = true
		at++
	}
	for {
		if at >= len(p) {
			return part, 0 // it ends within the class
		}
		if p[at] == ']' {
			if len(part.class) == 0 {
				return part, 0 // no item
			}
			return part, at + 1
		}
		if p[at] == '\\' {
			at++
		}
		if at >= len(p) {
			return part, 0
		}
		first, second := p[at], p[at]
		at++
		if at+1 < len(p) && p[at] == '-' && p[at+1] != ']' {
			at++
			if p[at] == '\\' {
				at++
			}
			if at >= len(p) {
				return part, 0
			}
			second = p[at]
			at++
		}
		if first > second {
			return part, 0
		}
		part.class = append(part.class, [2]int{first, second})
	}
}

// plainCut tells whether a name can be cut into what the parts stand for.
func plainCut(parts []plainPart, name []int) bool {
	if len(parts) == 0 {
		return len(name) == 0
	}
	p := parts[0]
	switch p.kind {
	case 'd', 's':
		for n := 0; n <= len(name); n++ {
			if p.kind == 's' && slices.Contains(name[:n], '/') {
				break
			}
			if plainCut(parts[1:], name[n:]) {
				return true
			}
		}
		return false
	}
	if len(name) == 0 || p.kind == 'c' && name[0] == '/' {
		return false
	}
	isIn := false
	for _, x := range p.class {
		isIn = isIn || name[0] >= x[0] && name[0] <= x[1]
	}
	return isIn != p.not && plainCut(parts[1:], name[1:])
}

// plainMatch is P25.1.
func plainMatch(pattern, name string) (bool, api.Errno) {
	if len(pattern) > 65535 || len(name) > 65535 {
		return false, api.ErrArg
	}
	parts, ok := plainParts(plainLetters(pattern))
	if !ok {
		return false, api.ErrPattern
	}
	return plainCut(parts, plainLetters(name)), api.OK
}

// plainF is a folder as it is named in the chapter.
func plainF(folder string) string {
	if n := len(folder); n > 0 && folder[n-1] == '/' {
		return folder[:n-1]
	}
	return folder
}

// plainIn tells whether a text is in the folder F.
func plainIn(text, f string) bool {
	if f == "" {
		return text != ""
	}
	return len(text) > len(f)+1 && text[:len(f)] == f && text[len(f)] == '/'
}

// plainUnder is P25.2.
func plainUnder(names []string, folder string) []string {
	var out []string
	for _, name := range names {
		if plainIn(name, plainF(folder)) {
			out = append(out, name)
		}
	}
	return out
}

// plainChildren is P25.3.
func plainChildren(names []string, folder string) []string {
	all := map[string]int{}
	for _, name := range names {
		f := plainF(folder)
		if !plainIn(name, f) {
			continue
		}
		from := 0
		if f != "" {
			from = len(f) + 1
		}
		child := name
		if at := strings.Index(name[from:], "/"); at >= 0 {
			child = name[:from+at+1]
		}
		all[child]++
	}
	var out []string
	for child := range all {
		out = append(out, child)
	}
	slices.Sort(out)
	return out
}

// plainSum is the CRC-32, bit by bit.
func plainSum(data []byte) uint32 {
	sum := ^uint32(0)
	for _, b := range data {
		sum ^= uint32(b)
		for range 8 {
			out := sum & 1
			sum >>= 1
			if out == 1 {
				sum ^= 0xEDB88320
			}
		}
	}
	return ^sum
}

// plainSame tells whether an Info says the same as a want.
func plainSame(x api.Info, w api.Want) bool {
	s := w.How.Stamp
	if s.Second%2 == 1 {
		s.Second--
	}
	if s.Second%2 == -1 {
		s.Second++
	}
	return x.Name == w.Name && x.Size == len(w.Data) && x.Sum == plainSum(w.Data) && x.Method == w.How.Method && x.Mode == w.How.Mode && x.Note == w.How.Note && x.Stamp == s
}

// plainSteps is P25.4; reads tells whether an entry's Read answers a want's Data.
func plainSteps(have []api.Info, want []api.Want, reads func(api.Want) bool) ([]api.Step, api.Done) {
	var wants []api.Want
	for i, w := range want {
		if !slices.ContainsFunc(want[i+1:], func(x api.Want) bool { return x.Name == w.Name }) {
			wants = append(wants, w)
		}
	}
	var infos []api.Info
	for i, x := range have {
		if !slices.ContainsFunc(have[:i], func(y api.Info) bool { return x.Name == y.Name }) {
			infos = append(infos, x)
		}
	}
	var steps []api.Step
	var done api.Done
	for _, x := range infos {
		if !slices.ContainsFunc(wants, func(w api.Want) bool { return x.Name == w.Name }) {
			steps = append(steps, api.Step{Kind: api.StepDelete, Name: x.Name})
			done.Deleted++
		}
	}
	for _, w := range wants {
		at := slices.IndexFunc(infos, func(x api.Info) bool { return x.Name == w.Name })
		if at >= 0 && plainSame(infos[at], w) && reads(w) {
			done.Kept++
			continue
		}
		if at >= 0 {
			done.Replaced++
		} else {
			done.Added++
		}
		steps = append(steps, api.Step{Kind: api.StepAdd, Name: w.Name, Data: w.Data, How: w.How})
	}
	return steps, done
}
