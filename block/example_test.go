package block_test

import (
	"bytes"
	"slices"
	"testing"

	"valise/api"
	"valise/bits"
	"valise/block"
)

func TestExampleSymbols(t *testing.T) { // example 1
	for _, c := range []struct {
		call                      func(int) (int, int, int, api.Errno)
		v, symbol, further, extra int
	}{
		{block.LengthSymbol, 3, 257, 0, 0}, {block.LengthSymbol, 12, 265, 1, 1}, {block.LengthSymbol, 257, 284, 5, 30}, {block.LengthSymbol, 258, 285, 0, 0},
		{block.DistSymbol, 1, 0, 0, 0}, {block.DistSymbol, 6, 4, 1, 1}, {block.DistSymbol, 32768, 29, 13, 8191},
	} {
		if symbol, further, extra, e := c.call(c.v); symbol != c.symbol || further != c.further || extra != c.extra || e != api.OK {
			t.Errorf("%d = %d, %d, %d, %d, want %d, %d, %d", c.v, symbol, further, extra, e, c.symbol, c.further, c.extra)
		}
	}
	for _, c := range []struct {
		call                func(int, int) (int, api.Errno)
		symbol, extra, want int
		e                   api.Errno
	}{
		{block.LengthOf, 284, 31, 258, api.OK}, {block.LengthOf, 284, 32, 0, api.ErrArg}, {block.LengthOf, 285, 1, 0, api.ErrArg}, {block.LengthOf, 256, 0, 0, api.ErrArg},
		{block.DistOf, 28, 0, 16385, api.OK}, {block.DistOf, 30, 0, 0, api.ErrArg},
	} {
		if v, e := c.call(c.symbol, c.extra); v != c.want || e != c.e {
			t.Errorf("%d, %d = %d, %d, want %d, %d", c.symbol, c.extra, v, e, c.want, c.e)
		}
	}
	if _, _, _, e := block.LengthSymbol(2); e != api.ErrArg {
		t.Errorf("LengthSymbol(2) = %d", e)
	}
}

func TestExampleTrees(t *testing.T) { // example 2
	counts(t, ten(), numbers(286, 97, 1, 256, 1, 263, 1), numbers(30, 0, 1))
	if lit, dist := treed(t, ten()); !slices.Equal(lit, numbers(286, 97, 2, 256, 2, 263, 1)) || !slices.Equal(dist, numbers(30, 0, 1)) {
		t.Errorf("Trees = %v, %v", lit, dist)
	}
}

func TestExampleMeasure(t *testing.T) { // example 3
	if s := measured(t, ten(), 0); s.Stored != 120 || s.Fixed != 30 {
		t.Errorf("Measure of ten = %v", s)
	}
	if s := measured(t, nil, 0); s != (api.Sizes{Stored: 40, Fixed: 10, Dynamic: 92}) {
		t.Errorf("Measure of nothing = %v", s)
	}
	if s := measured(t, nil, 6); s.Stored != 42 {
		t.Errorf("Measure of nothing at 6 = %v", s)
	}
}

func TestExampleChoose(t *testing.T) { // example 4
	chooses(t, 40, 10, 92, api.KindFixed)
	chooses(t, 5, 5, 5, api.KindStored)
	chooses(t, 9, 5, 5, api.KindFixed)
}

func TestExampleWrite(t *testing.T) { // example 5
	w := bits.NewWriter()
	if e := block.Write(w, nil, nil, api.KindFixed, true); e != api.OK || !bytes.Equal(w.Bytes(), []byte{0x03, 0x00}) || w.Len() != 10 {
		t.Errorf("Write of nothing = %d, % x", e, w.Bytes())
	}
	w = bits.NewWriter()
	if e := block.Write(w, row("a"), []byte("a"), api.KindStored, false); e != api.OK || !bytes.Equal(w.Bytes(), []byte{0x00, 0x01, 0x00, 0xFE, 0xFF, 0x61}) {
		t.Errorf("Write of a = %d, % x", e, w.Bytes())
	}
	writeFails(t, row("a"), nil, api.KindStored, api.ErrBlockRaw)
	writeFails(t, row("a"), []byte("a"), 3, api.ErrBlockKind)
}
