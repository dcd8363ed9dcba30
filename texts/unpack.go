package texts

import (
	"valise/api"
	"valise/inflate"
)

const (
	firstReach = 4096 // so many bytes of a packed text are tried first
	growth     = 8    // and so many times more with each further try
)

// unpacked tells the text that packed bytes begin with, and how many of them it takes. To unpack is to copy the bytes first, and a text mostly takes few of those that stand behind a local header: so it is tried with few, and with more only while it wants more.
func unpacked(data []byte, limit int) (plain []byte, n int, ok bool) {
	for reach := firstReach; ; reach *= growth {
		plain, used, e := inflate.Inflate(data[:min(reach, len(data))], limit)
		if e == api.OK {
			return plain, (used + 7) / 8, true
		}
		if reach >= len(data) || !wantsMore(e) {
			return nil, 0, false
		}
	}
}

// wantsMore tells whether an error may be that of a text whose bytes are not all there. Any other one stays, whatever stands behind.
func wantsMore(e api.Errno) bool {
	return e == api.ErrInfEnd || e == api.ErrHeadEnd
}
