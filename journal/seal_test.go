package journal_test

import (
	"math"
	"strings"
	"testing"

	"valise/api"
	"valise/journal"
)

// seals are seals with each number at its edges.
func seals() []api.Seal {
	list := []api.Seal{{State: 2}, {State: 3}, {State: 4}, {State: 3, Seq: 7, Old: 12, New: 5, Count: 1, Length: 9, Sum: 0x01020304}}
	for _, v := range []int{1, 255, 256, 1 << 31, api.MaxField} {
		list = append(list, api.Seal{State: 2, Seq: v}, api.Seal{State: 2, Old: v}, api.Seal{State: 2, New: v}, api.Seal{State: 2, Count: v}, api.Seal{State: 2, Length: v}, api.Seal{State: 2, Sum: uint32(v)},
			api.Seal{State: 4, Seq: v, Old: v, New: v, Count: v, Length: v, Sum: uint32(v)})
	}
	return list
}

func TestSealBothWays(t *testing.T) { // P14.1, P0.9
	for _, s := range seals() {
		sector, e := journal.EncodeSeal(s)
		if e != api.OK || string(sector) != plainSector(s) {
			t.Errorf("EncodeSeal(%v) = % x, %d", s, sector[:min(40, len(sector))], e)
		}
		if back, e := journal.DecodeSeal(sector); back != s || e != api.OK {
			t.Errorf("DecodeSeal of %v = %v, %d", s, back, e)
		}
	}
}

func TestSealBytes(t *testing.T) { // P14.1, P0.9: a sector as it stands in the file
	sector, e := journal.EncodeSeal(api.Seal{State: 3, Seq: 0x01020304, Old: 12, New: 5, Count: 1, Length: 9, Sum: 0xCBF43926})
	want := "VALISEJ1" + "\x03\x00\x00\x00" + "\x04\x03\x02\x01" + "\x0c\x00\x00\x00" + "\x05\x00\x00\x00" + "\x01\x00\x00\x00" + "\x09\x00\x00\x00" + "\x26\x39\xf4\xcb"
	if e != api.OK || len(sector) != 512 || string(sector[:36]) != want || string(sector[40:]) != zeros(472) {
		t.Errorf("EncodeSeal = % x, %d", sector[:min(40, len(sector))], e)
	}
}

func TestSealRefused(t *testing.T) { // P14.1
	var wrong []api.Seal
	for _, v := range []int{-1, 0, 1, 5, 1<<32 + 2, math.MinInt, math.MaxInt} {
		wrong = append(wrong, api.Seal{State: v})
	}
	for _, v := range []int{-1, api.MaxField + 1, math.MinInt, math.MaxInt} {
		wrong = append(wrong, api.Seal{State: 2, Seq: v}, api.Seal{State: 3, Old: v}, api.Seal{State: 4, New: v}, api.Seal{State: 2, Count: v}, api.Seal{State: 3, Length: v})
	}
	for _, s := range wrong {
		if sector, e := journal.EncodeSeal(s); len(sector) != 0 || e != api.ErrArg {
			t.Errorf("EncodeSeal(%v): %d bytes, %d", s, len(sector), e)
		}
	}
}

// noSeal holds that DecodeSeal refuses bytes.
func noSeal(t *testing.T, what string, sector string) {
	t.Helper()
	if s, e := journal.DecodeSeal([]byte(sector)); s != (api.Seal{}) || e != api.ErrSealShape {
		t.Errorf("DecodeSeal of %s = %v, %d", what, s, e)
	}
}

func TestSealEveryByte(t *testing.T) { // P14.1: any byte any other
	for _, s := range []api.Seal{{State: 2}, {State: 4, Seq: 7, Old: 12, New: 5, Count: 1, Length: 9, Sum: 0xFEDCBA98}} {
		sector := []byte(plainSector(s))
		for i, was := range sector {
			for b := range 256 {
				sector[i] = byte(b)
				if byte(b) != was {
					noSeal(t, "a sector with one byte another", string(sector))
				}
			}
			sector[i] = was
		}
	}
}

func TestSealShape(t *testing.T) { // P14.1: other lengths; a sum that is right over numbers that are not
	good := plainSector(api.Seal{State: 2, Old: 12})
	noSeal(t, "nothing", "")
	noSeal(t, "511 bytes", good[:511])
	noSeal(t, "513 bytes", good+"\x00")
	noSeal(t, "40 bytes", good[:40])
	noSeal(t, "39 bytes", good[:39])
	noSeal(t, "two sectors", good+good)
	noSeal(t, "much", good+zeros(1<<20))
	noSeal(t, "zeros", zeros(512))
	noSeal(t, "other first bytes", "VALISEJ2"+good[8:])
	for _, state := range []int{0, 1, 5, 1 << 31} {
		noSeal(t, "no such state", plainSector(api.Seal{State: state}))
	}
	noSeal(t, "the rest not 0", good[:40]+strings.Repeat("x", 472))
}
