package deflate

import (
	"valise/api"
	"valise/bits"
)

// storedStart is how many bytes a stored block that begins at the border of a byte has ahead of its raw bytes.
const storedStart = 5

// bound tells how many bytes stored takes for n bytes. Nothing takes a block too.
func bound(n int) int {
	started := (n + api.MaxRaw - 1) / api.MaxRaw
	return n + storedStart*max(started, 1)
}

// stored tells data as stored blocks, each but the last one as long as may be.
func stored(data []byte) []byte {
	w := bits.NewWriter()
	for len(data) > api.MaxRaw {
		putStored(w, data[:api.MaxRaw], 0)
		data = data[api.MaxRaw:]
	}
	putStored(w, data, 1)
	return w.Bytes()
}

// putStored puts one block at the border of a byte. It would be block's to write, but that one asks for a token of each byte.
func putStored(w *bits.Writer, raw []byte, last uint32) {
	w.Put(last, 1)
	w.Put(api.KindStored, 2)
	w.Align()
	w.Put(uint32(len(raw)), 16)
	w.Put(uint32(api.MaxRaw-len(raw)), 16)
	w.Raw(raw)
}
