package layout_test

import (
	"strings"
	"testing"

	"valise/api"
)

// endOf is an end record that says so many bytes of a comment, which does not stand there.
func endOf(comment int) string {
	return with(with(none, 20, byte(comment)), 21, byte(comment>>8))
}

func TestEndPlaces(t *testing.T) { // P13.1
	for _, n := range []int{0, 1, 255, 256, 257, 65534, 65535} {
		for _, ahead := range []string{"", "x", "PK\x05\x06", strings.Repeat("y", 70000)} {
			ends(t, ahead+endOf(n)+strings.Repeat("c", n), len(ahead), api.OK)
			ends(t, ahead+endOf(n)+strings.Repeat("c", n+1), 0, api.ErrLayEnd)
			if n > 0 {
				ends(t, ahead+endOf(n)+strings.Repeat("c", n-1), 0, api.ErrLayEnd)
			}
		}
	}
	ends(t, endOf(65535)+strings.Repeat("c", 65536), 0, api.ErrLayEnd)
	ends(t, endOf(0)+strings.Repeat("c", 65536), 0, api.ErrLayEnd)
}

func TestEndShort(t *testing.T) { // P13.1: no record fits in
	for n := range 22 {
		ends(t, none[:n], 0, api.ErrLayEnd)
		ends(t, strings.Repeat("\x00", n), 0, api.ErrLayEnd)
	}
	ends(t, none, 0, api.OK)
	for at := range 4 {
		ends(t, with(none, at, none[at]+1), 0, api.ErrLayEnd)
	}
	for at := 4; at < 20; at++ { // what the fields say is not asked
		ends(t, with(none, at, 0xff), 0, api.OK)
	}
}

func TestEndLast(t *testing.T) { // P13.1: the greatest place
	ends(t, endOf(22)+none, 22, api.OK)
	ends(t, endOf(23)+endOf(1)+"x", 22, api.OK)
	ends(t, endOf(44)+endOf(22)+none, 44, api.OK)
	ends(t, endOf(44)+endOf(22)+with(none, 0, 'p'), 22, api.OK)
	ends(t, endOf(23)+none+"x", 0, api.OK)                    // the last one ends ahead of the file
	ends(t, endOf(23)+endOf(2)+"x", 0, api.OK)                // the last one goes beyond it
	ends(t, endOf(22)+endOf(0xff00), 0, api.OK)               // and far beyond it
	ends(t, endOf(8)+"PK\x05\x06\x00\x00\x00\x00", 0, api.OK) // a signature without a record
	overlaid := endOf(26)[:20] + "PK\x05\x06" + none[4:]
	ends(t, overlaid, 20, api.OK) // one begins in the length of the other
}

func TestEndCapacity(t *testing.T) { // P13.1
	room := strings.Repeat("\x00", api.MaxCapacity-22)
	ends(t, room+none, len(room), api.OK)
	ends(t, room+"x"+none, 0, api.ErrArg)
	ends(t, room+strings.Repeat("x", 23), 0, api.ErrArg)
	ends(t, room+strings.Repeat("x", 22), 0, api.ErrLayEnd)
	refuses(t, room+"x"+none, api.ErrArg)
	refuses(t, room+none, api.ErrLayDir)
}

func TestEndMany(t *testing.T) { // end records at every place that end elsewhere: none is read for its comment
	for _, unit := range []string{"PK\x05\x06", "PK\x05\x06" + strings.Repeat("\x00", 16), none} {
		ends(t, strings.Repeat(unit, 4<<20/len(unit))+"xyz", 0, api.ErrLayEnd)
	}
}
