package valise

import (
	"errors"
	"sync"

	"valise/api"
	"valise/field"
	"valise/inflate"
)

const abreast = 8 // so many entries are read at one time: a short packed text may be a very long plain one, and there may be thousands of them

// Read tells an entry's bytes.
func (v *Valise) Read(name string) ([]byte, error) {
	x, e := v.entry(name)
	if e != api.OK {
		return nil, fault("read", name, e)
	}
	packed, e := v.store.Bytes(name)
	if e != api.OK {
		return nil, fault("read", name, e)
	}
	plain, e := unpacked(x.Local, packed)
	return plain, fault("read", name, e)
}

// Verify tells the names of the entries whose bytes are damaged, rising.
func (v *Valise) Verify() ([]string, error) {
	c, e := v.content()
	entries := rising(c.archive.Entries)
	var damaged []string
	for i, reason := range reasons(c.file, entries) {
		if errors.Is(reason, api.ErrDamaged) {
			damaged = append(damaged, entries[i].Name)
		}
	}
	return damaged, fault("verify", "", e)
}

// reasons tells of each entry why it can't be read.
func reasons(file []byte, entries []api.Entry) []api.Errno {
	out := make([]api.Errno, len(entries))
	for from := 0; from < len(entries); from += abreast {
		var workers sync.WaitGroup
		for i := from; i < min(from+abreast, len(entries)); i++ {
			workers.Go(func() { _, out[i] = unpacked(entries[i].Local, packedIn(file, entries[i])) })
		}
		workers.Wait()
	}
	return out
}

// packedIn tells an entry's packed bytes in the file. They end where the file does: other hands may have cut it since it was opened, and no call panics.
func packedIn(file []byte, x api.Entry) []byte {
	return file[min(x.Data, len(file)):min(x.Data+x.Packed, len(file))]
}

// unpacked tells an entry's plain text, if it is the one that its record says.
func unpacked(l api.Local, packed []byte) ([]byte, api.Errno) {
	plain := packed
	if l.Method == api.MethodDeflate {
		var e api.Errno
		plain, e = inflate.Exact(packed, l.Size)
		if e != api.OK {
			return nil, api.ErrDamaged
		}
	}
	if field.Sum(plain) != l.Sum {
		return nil, api.ErrDamaged
	}
	return plain, api.OK
}
