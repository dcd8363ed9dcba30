package plan

import (
	"slices"

	"valise/api"
)

const bridge = 8 // so many unchanged bytes are written along: a write of its own would cost the journal as many

// Diff tells the least writes that make the second content of the first one, once it has the second one's size.
func Diff(old, next []byte) []api.Write {
	var writes []api.Write
	for _, s := range changed(old, next) {
		writes = append(writes, api.Write{At: s.From, Data: slices.Clone(next[s.From:s.To])})
	}
	return writes
}

// changed tells the changed places of a content, with the few unchanged ones between them.
func changed(old, next []byte) []api.Span {
	var spans []api.Span
	for at, b := range next {
		if b == byteAt(old, at) {
			continue
		}
		if n := len(spans); n > 0 && at-spans[n-1].To <= bridge {
			spans[n-1].To = at + 1
		} else {
			spans = append(spans, api.Span{From: at, To: at + 1})
		}
	}
	return spans
}

// byteAt tells a content's byte at a place, 0 behind its end: so much a file gets that is made longer.
func byteAt(content []byte, at int) byte {
	if at < len(content) {
		return content[at]
	}
	return 0
}
