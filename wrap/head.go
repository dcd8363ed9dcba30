package wrap

import (
	"bytes"
	"math"
	"strings"

	"valise/api"
	"valise/field"
)

// The flags of a gzip head.
const (
	flagText = 1 << iota
	flagChecked
	flagExtra
	flagName
	flagNote
	flagUnknown // it and all above it
)

const (
	gzipSign  = "\x1f\x8b\x08"
	gzipLeast = 10        // bytes of a head in which nothing stands that needs a flag
	headSum   = 1<<16 - 1 // what of its sum a head says
	textEnd   = "\x00"    // behind a name and a note
)

// headsOf tells each member's head, or what is wrong with one of them.
func headsOf(members []api.Member) ([][]byte, api.Errno) {
	heads := make([][]byte, len(members))
	for i, m := range members {
		var e api.Errno
		heads[i], e = putHead(m)
		if e != api.OK {
			return nil, e
		}
	}
	return heads, api.OK
}

// putHead tells a member's head. What doesn't fit a field is told by the buffer.
func putHead(m api.Member) ([]byte, api.Errno) {
	if strings.Contains(m.Name, textEnd) || strings.Contains(m.Note, textEnd) {
		return nil, api.ErrWrapField
	}
	b := field.NewBuffer(math.MaxInt)
	b.Text(gzipSign)
	b.U8(flagsOf(m))
	b.U32(m.Time)
	b.U8(m.Hint)
	b.U8(m.System)
	if m.Extra != "" {
		b.U16(len(m.Extra))
		b.Text(m.Extra)
	}
	for _, text := range []string{m.Name, m.Note} {
		if text != "" {
			b.Text(text + textEnd)
		}
	}
	if m.Checked {
		b.U16(sumOfHead(b.Take()))
	}
	if b.Err() != api.OK {
		return nil, api.ErrWrapField
	}
	return b.Take(), api.OK
}

// flagsOf tells the flags of a member's head.
func flagsOf(m api.Member) int {
	flags := 0
	set := func(flag int, is bool) {
		if is {
			flags |= flag
		}
	}
	set(flagText, m.Text)
	set(flagChecked, m.Checked)
	set(flagExtra, m.Extra != "")
	set(flagName, m.Name != "")
	set(flagNote, m.Note != "")
	return flags
}

// sumOfHead tells the sum that a head has of its own, from all its bytes ahead of it.
func sumOfHead(head []byte) int { return int(field.Sum(head)) & headSum }

// head reads a head, and tells what it says.
func (r *reading) head() (api.Member, api.Errno) {
	from := r.in.At()
	if r.in.Left() < gzipLeast {
		return api.Member{}, api.ErrWrapShort
	}
	if r.in.Text(len(gzipSign)) != gzipSign {
		return api.Member{}, api.ErrWrapHead
	}
	flags := r.in.U8()
	if flags >= flagUnknown {
		return api.Member{}, api.ErrWrapField
	}
	m := api.Member{Text: flags&flagText != 0, Checked: flags&flagChecked != 0}
	m.Time, m.Hint, m.System = r.in.U32(), r.in.U8(), r.in.U8()
	if flags&flagExtra != 0 {
		m.Extra = r.in.Text(r.in.U16())
	}
	if flags&flagName != 0 {
		m.Name = r.ended()
	}
	if flags&flagNote != 0 {
		m.Note = r.ended()
	}
	if e := r.checkHead(from, m.Checked); e != api.OK {
		return api.Member{}, e
	}
	return m, api.OK
}

// ended reads a text up to the byte 0 behind it. Where there is none, the text is all that is left, and it is that byte which the cursor misses.
func (r *reading) ended() string {
	rest := r.data[r.in.At():]
	n := bytes.IndexByte(rest, textEnd[0])
	if n < 0 {
		n = len(rest)
	}
	text := r.in.Text(n)
	r.in.U8()
	return text
}

// checkHead reads the head's own sum, if it has one, and tells what is wrong with the head that began at a place.
func (r *reading) checkHead(from int, checked bool) api.Errno {
	sum, said := 0, 0
	if checked {
		sum = sumOfHead(r.data[from:r.in.At()])
		said = r.in.U16()
	}
	switch {
	case r.in.Err() != api.OK:
		return api.ErrWrapShort
	case said != sum:
		return api.ErrWrapSum
	}
	return api.OK
}
