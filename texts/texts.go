// Package texts: whether packed bytes in a file say what a record tells of them: salvage and mend stand on it; it has no chapter.
package texts

import (
	"valise/api"
	"valise/field"
)

// Texts are the packed texts of one file.
type Texts struct {
	file []byte
	sums sums
}

// Of tells the texts of a file.
func Of(file []byte) Texts { return Texts{file, newSums(file)} }

// Hold tells whether the packed bytes from a place on are there, and say what the record tells.
func (t Texts) Hold(l api.Local, data int) bool {
	if l.Packed > len(t.file)-data {
		return false
	}
	to := data + l.Packed
	if l.Method == api.MethodStore {
		return l.Size == l.Packed && t.sums.of(data, to) == l.Sum
	}
	plain, n, ok := unpacked(t.file[data:to], l.Size)
	return ok && n == l.Packed && len(plain) == l.Size && field.Sum(plain) == l.Sum
}

// Measured is a record with the sum and the sizes that the packed bytes from a place on say. Of stored ones nobody knows where they end.
func (t Texts) Measured(l api.Local, data int) (api.Local, bool) {
	if l.Method != api.MethodDeflate {
		return api.Local{}, false
	}
	plain, n, ok := unpacked(t.file[data:], api.MaxCapacity)
	if !ok {
		return api.Local{}, false
	}
	l.Sum, l.Packed, l.Size = field.Sum(plain), n, len(plain)
	return l, true
}
