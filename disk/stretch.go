package disk

// stretch: bytes one behind the other from the place at on: first zeros, then data. One that lies within one sector is a piece. The zeros are kept as a number, so that a file that grows by far costs no memory for them.
type stretch struct {
	at, zeros int
	data      []byte
}

// end tells the place behind the last byte.
func (s stretch) end() int { return s.at + s.zeros + len(s.data) }

// part tells the bytes from a place up to another one, both within s.
func (s stretch) part(from, to int) stretch {
	start := s.at + s.zeros
	first := max(from, start)
	if first >= to {
		return stretch{at: from, zeros: to - from}
	}
	return stretch{at: from, zeros: first - from, data: s.data[first-start : to-start]}
}

// paint puts the bytes where they belong in a file's bytes, as far as those reach.
func (s stretch) paint(file []byte) {
	if s.at >= len(file) {
		return
	}
	start := min(s.at+s.zeros, len(file))
	clear(file[s.at:start])
	copy(file[start:], s.data)
}

// resized tells the list cut, or filled up with zeros, to that many bytes; it uses the list's own memory.
func resized(list []byte, size int) []byte {
	if size <= len(list) {
		return list[:size]
	}
	return append(list, make([]byte, size-len(list))...)
}

// kept tells how many of so many unsynced things a crash keeps, if it is asked for n.
func kept(n, all int) int { return min(max(n, 0), all) }
