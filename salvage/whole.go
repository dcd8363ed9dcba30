package salvage

import (
	"valise/api"
	"valise/field"
	"valise/record"
	"valise/texts"
)

const (
	localSign = "PK\x03\x04"
	kindBytes = 10 // of a local header, up to its method

	lateFlag   = 8                        // a descriptor stands behind the packed bytes
	knownFlags = 2 | 4 | lateFlag | 1<<11 // how hard was packed; told late; the name is UTF-8

	made = 20 // what a directory would say: which program laid the entry down is lost with it
)

// search is a file in which whole entries are looked for.
type search struct {
	file  []byte
	texts texts.Texts
}

// wholeAt tells the whole entry that stands at a place.
func (s search) wholeAt(at int) (api.Entry, bool) {
	l, data, ok := s.headerAt(at)
	if !ok {
		return api.Entry{}, false
	}
	if toldLate(l) {
		l, ok = s.texts.Measured(l, data)
	} else {
		ok = s.texts.Hold(l, data)
	}
	if !ok {
		return api.Entry{}, false
	}
	to := data + l.Packed
	if l.Flags&lateFlag != 0 {
		n, e := record.GetDescriptor(s.file, to, l)
		if e != api.OK {
			return api.Entry{}, false
		}
		to += n
	}
	c := api.Central{Local: l, Made: made, At: at}
	return api.Entry{Central: c, LocalExtra: l.Extra, From: at, Data: data, To: to}, true
}

// headerAt tells the local header at a place, and where it ends, if it is one that a whole entry may have.
func (s search) headerAt(at int) (api.Local, int, bool) {
	if !knownKind(s.file[at:]) {
		return api.Local{}, 0, false
	}
	l, data, e := record.GetLocal(s.file, at)
	if e != api.OK || record.CheckName(l.Name) != api.OK {
		return api.Local{}, 0, false
	}
	if _, e := record.SplitExtra(l.Extra); e != api.OK {
		return api.Local{}, 0, false
	}
	return l, data, true
}

// knownKind tells whether the local header that bytes begin with is that of an entry of a kind that is read here. That is asked ahead of the record: to read one is to copy its texts, and there may be millions that are none.
func knownKind(text []byte) bool {
	c := field.NewCursor(text[:min(kindBytes, len(text))])
	c.Skip(len(localSign))
	need, flags, method := c.U16(), c.U16(), c.U16()
	if need != 10 && need != 20 || flags&^knownFlags != 0 {
		return false
	}
	return method == api.MethodStore || method == api.MethodDeflate
}

// toldLate tells whether a local header leaves it to the descriptor to say the sum and the sizes.
func toldLate(l api.Local) bool {
	return l.Flags&lateFlag != 0 && l.Sum == 0 && l.Packed == 0 && l.Size == 0
}
