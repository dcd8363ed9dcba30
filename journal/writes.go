package journal

import (
	"valise/api"
	"valise/field"
)

const spanBytes = 8 // of a span's two numbers in the body

// right tells whether the writes are right for a size: none is empty, each begins behind the one ahead, all end within it.
func right(writes []api.Write, size int) bool {
	end := 0
	for _, w := range writes {
		if len(w.Data) == 0 || w.At < end || w.At > size-len(w.Data) { // At + the bytes could leave the ints
			return false
		}
		end = w.At + len(w.Data)
	}
	return true
}

// saved tells the places below old that right writes cover, write by write.
func saved(writes []api.Write, old int) []api.Span {
	var spans []api.Span
	for _, w := range writes {
		if w.At < old {
			spans = append(spans, api.Span{From: w.At, To: min(w.At+len(w.Data), old)})
		}
	}
	return spans
}

// bodyBytes tells how many bytes the body has that saves the spans.
func bodyBytes(spans []api.Span) int {
	n := spanBytes * len(spans)
	for _, s := range spans {
		n += s.To - s.From
	}
	return n
}

// body tells the body that saves the spans of a content.
func body(content []byte, spans []api.Span) []byte {
	n := bodyBytes(spans)
	head := field.NewBuffer(n)
	for _, s := range spans {
		head.U32(s.From)
		head.U32(s.To - s.From)
	}
	list := append(make([]byte, 0, n), head.Take()...)
	for _, s := range spans {
		list = append(list, content[s.From:s.To]...)
	}
	return list
}

// unbody tells the writes that put back what a body saves, and whether the body is right for its seal. Their bytes are the body's own.
func unbody(body []byte, s api.Seal) ([]api.Write, bool) {
	head := spanBytes * s.Count
	if head > len(body) || field.Sum(body) != s.Sum {
		return nil, false
	}
	var back []api.Write
	c, rest := field.NewCursor(body[:head]), body[head:]
	for range s.Count {
		at, n := c.U32(), c.U32()
		if n > len(rest) {
			return nil, false
		}
		back = append(back, api.Write{At: at, Data: rest[:n]})
		rest = rest[n:]
	}
	return back, len(rest) == 0 && right(back, s.Old)
}
