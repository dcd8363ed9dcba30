package deflate_test

import (
	"slices"
	"testing"

	"valise/api"
	"valise/deflate"
)

func TestExampleDeflate(t *testing.T) { // examples 1, 2 and 3
	deflates(t, "", 0, "\x01\x00\x00\xFF\xFF")
	for level := 1; level <= 9; level++ {
		deflates(t, "", level, "\x03\x00")
	}
	deflates(t, "a", 6, "\x4B\x04\x00")
	deflates(t, "a", 0, "\x01\x01\x00\xFE\xFFa")
	deflates(t, "aaaa", 6, "\x4B\x04\x02\x00")
}

func TestExampleBound(t *testing.T) { // example 4
	for _, c := range [][2]int{{0, 5}, {1, 6}, {65535, 65540}, {65536, 65546}} {
		bounds(t, c[0], c[1])
	}
	if n, e := deflate.Bound(-1); n != 0 || e != api.ErrArg {
		t.Errorf("Bound(-1) = %d, %d", n, e)
	}
	if packed, e := deflate.Deflate(nil, 10); packed != nil || e != api.ErrDeflateLevel {
		t.Errorf("Deflate(nothing, 10) = %x, %d", packed, e)
	}
	if effort, e := deflate.Effort(-1); effort != (api.Effort{}) || e != api.ErrDeflateLevel {
		t.Errorf("Effort(-1) = %v, %d", effort, e)
	}
}

func TestExampleSplit(t *testing.T) { // examples 5 and 6
	splits(t, nil, 0)
	splits(t, lits(128, 'a'), 128)
	splits(t, lits(300, 'a'), 300)
	splits(t, slices.Concat(lits(128, 'a'), lits(128, 0xC8)), 128, 128)
	splits(t, slices.Concat(lits(128, 'a'), lits(127, 0xC8)), 255)
	splits(t, copies(254, 258, 1), 254)
	splits(t, copies(255, 258, 1), 128, 127)
}
