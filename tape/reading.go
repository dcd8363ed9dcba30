package tape

import (
	"bytes"

	"valise/api"
)

// reading is a tape that is being read.
type reading struct {
	rest []byte // what is not yet read
}

// record reads the next record.
func (r *reading) record() (header, api.Errno) {
	if len(r.rest) < recordBytes {
		return header{}, api.ErrTapeShort
	}
	h := header(r.rest[:recordBytes])
	r.rest = r.rest[recordBytes:]
	return h, api.OK
}

// end reads the second of the two records behind the last entry.
func (r *reading) end() api.Errno {
	h, e := r.record()
	switch {
	case e != api.OK:
		return e
	case h != header{}:
		return api.ErrTapeHead
	}
	return api.OK
}

// file reads what stands behind a header, and tells the file.
func (r *reading) file(h header) (api.File, api.Errno) {
	if sum, ok := h.number(numbers[sumNumber]); !ok || sum != h.sum() {
		return api.File{}, api.ErrTapeSum
	}
	f, size, ok := h.file()
	if !ok || string(h[magicAt:magicAt+len(magic)]) != magic || !sound(f, size) {
		return api.File{}, api.ErrTapeHead
	}
	if dataBytes(size) > len(r.rest) {
		return api.File{}, api.ErrTapeShort
	}
	f.Data = bytes.Clone(r.rest[:size])
	r.rest = r.rest[dataBytes(size):]
	return f, api.OK
}

// file tells what a header says: a file without its data, and how many bytes they are; false, if a number may not be.
func (h *header) file() (f api.File, size int, ok bool) {
	var said [majorNumber]int
	for i := range said {
		said[i], ok = h.number(numbers[i])
		if !ok {
			return api.File{}, 0, false
		}
	}
	f = api.File{
		Name: h.name(), User: h.text(texts[userText]), Team: h.text(texts[teamText]), Kind: h.kind(),
		Mode: said[modeNumber], Owner: said[ownerNumber], Group: said[groupNumber], Time: said[timeNumber],
	}
	if f.Kind == kindLink {
		f.Link = h.text(texts[linkText])
	}
	return f, said[sizeNumber], true
}

// kind reads the kind, which may be one that no sound file has.
func (h *header) kind() int {
	if h[kindAt] == 0 {
		return kindFile
	}
	return int(h[kindAt]) - '0'
}

// name reads the name, of both its parts. Without the second one it is none, whatever the first one is.
func (h *header) name() string {
	prefix, name := h.text(texts[prefixText]), h.text(texts[nameText])
	if prefix == "" || name == "" {
		return name
	}
	return prefix + "/" + name
}
