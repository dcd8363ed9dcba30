package layout

import (
	"valise/api"
	"valise/extent"
	"valise/record"
)

// names are those of the entries that have been looked at.
type names map[string]struct{}

// take tells why an entry's record may not stand behind those of these names; where it may, its name is one of them from then on.
func (n names) take(c api.Central) api.Errno {
	if !extent.RightCore(c) {
		return api.ErrLayEntry
	}
	if record.CheckName(c.Name) != api.OK {
		return api.ErrLayName
	}
	if _, there := n[c.Name]; there {
		return api.ErrLayTwice
	}
	n[c.Name] = struct{}{}
	return api.OK
}
