package stream_test

import (
	"strings"
	"testing"

	"valise/api"
)

// small is the first numbers of a header and the lengths of its small code, in the header's order.
func small(lit, dist int, lens ...int) string {
	text := row(lit-257, 5) + row(dist-1, 5) + row(15, 4)
	for _, n := range append(lens, make([]int, 19-len(lens))...) {
		text += row(n, 3)
	}
	return text
}

// four is the same with the words 00 for the length 0, 01 for the length 1, 10 for a repeat and 11 for many zeros.
func four(lit, dist int) string {
	return small(lit, dist, 2, 0, 2, 2, 0, 0, 0, 0, 0, 0, 0, 0, 0, 0, 0, 0, 0, 2)
}

// broken is a block that goes wrong with its last bit, where the text ahead of it has reached the limit; so many of its bits are fixed.
type broken struct {
	text  string
	fixed int
	e     api.Errno
}

// brokenHeaders is the beginnings of dynamic blocks.
func brokenHeaders() []broken {
	zeros := "11" + row(127, 7) // 138 of them
	most := zeros + "11" + row(107, 7)
	all := []broken{
		{row(30, 5) + row(0, 5) + row(0, 4), 3, api.ErrHeadCounts}, {row(0, 5) + row(30, 5) + row(0, 4), 3, api.ErrHeadCounts}, {row(31, 14), 3, api.ErrHeadCounts},
		{small(257, 1), 3, api.ErrHeadMeta}, {small(257, 1, 1), 3, api.ErrHeadMeta}, {small(286, 30, 1, 1, 1), 3, api.ErrHeadMeta}, {small(257, 1, 2, 2, 2), 3, api.ErrHeadMeta},
		{four(257, 1) + "1000", 3, api.ErrHeadRepeat}, {four(286, 30) + "1011", 3, api.ErrHeadRepeat},
		{four(257, 1) + zeros + zeros, 3, api.ErrHeadOver}, {four(257, 2) + most + "01" + "00" + "1000", 3, api.ErrHeadOver}, {four(257, 1) + most + "1001", 3, api.ErrHeadOver},
		{four(257, 1) + most + "0000", 3, api.ErrHeadLit}, {four(257, 1) + most + "0001", 3, api.ErrHeadLit}, {four(259, 1) + most + "01010100", 3, api.ErrHeadLit},
		{four(257, 3) + most + "01010101", 3, api.ErrHeadDist}, {four(258, 4) + most + "0101" + "1000" + "01", 3, api.ErrHeadDist},
	}
	for i, h := range all {
		all[i].text = row(4+i%2, 3) + h.text
	}
	return all
}

// brokenSymbols is blocks that go wrong in their first symbol or copy.
func brokenSymbols() []broken {
	w := fixedWords()
	all := []broken{{row(6, 3), 0, api.ErrInfKind}, {row(7, 3), 0, api.ErrInfKind}}
	for _, h := range []broken{
		{w.lit['a'], 3, api.ErrInfLimit}, {w.lit[255], 3, api.ErrInfLimit}, {w.lit[257] + w.dist[0], 3, api.ErrInfLimit}, {w.lit[284] + "11111" + w.dist[0], 3, api.ErrInfLimit},
		{w.lit[286], 3, api.ErrInfSymbol}, {w.lit[287], 3, api.ErrInfSymbol}, {w.lit[257] + w.dist[30], 3, api.ErrInfSymbol}, {w.lit[265] + "1" + w.dist[31], 3, api.ErrInfSymbol},
		{w.lit[257] + w.dist[12] + "00000", 3, api.ErrInfFar}, {w.lit[285] + w.dist[29] + strings.Repeat("1", 13), 3, api.ErrInfFar},
	} {
		all = append(all, broken{row(2, 3) + h.text, h.fixed, h.e})
	}
	for _, h := range []struct {
		lit, dist []int
		text      string
		e         api.Errno
	}{
		{lits(256, 1), nil, "1", api.ErrInfSymbol}, {lits(256, 1, 257, 1), nil, "1", api.ErrInfSymbol}, {lits(256, 1, 257, 1), []int{1}, "11", api.ErrInfSymbol}, {lits(256, 1, 257, 1), []int{1}, "10", api.ErrInfLimit}, {lits(256, 1, 257, 1), append(make([]int, 29), 1), "10" + row(0, 13), api.ErrInfFar}, {lits('a', 1, 256, 1), nil, "0", api.ErrInfLimit},
	} {
		s := &speller{}
		s.dynamic(false, h.lit, h.dist)
		all = append(all, broken{s.text() + h.text, s.size, h.e})
	}
	return all
}

func TestBrokenBlocks(t *testing.T) { // P18.2, P18.3: as soon as the bits have come, whatever would stand behind them
	for _, h := range append(brokenHeaders(), brokenSymbols()...) {
		for ahead := range 8 {
			s := &speller{}
			s.literals(s.fixed(false), strings.Repeat("\xFF", ahead)+"a") // 9 bits each, then 8
			s.end(fixedWords())
			breaks(t, s, h)
		}
	}
}

// breaks feeds a text that goes wrong with its last bit, first without the byte in which this is.
func breaks(t *testing.T, s *speller, h broken) {
	t.Helper()
	data := bytesOf(s.text() + h.text)
	limit, last, used := len(s.plain), len(data)-1, s.size+h.fixed
	for _, fill := range []byte{0, 0xFF} { // what stands behind that bit
		f := begun(t, limit)
		ahead, e := f.Feed(data[:last])
		b := data[last] | fill<<((s.size+len(h.text)-1)%8)<<1
		rest, wrong := f.Feed([]byte{b})
		if e != api.OK || wrong != h.e || string(ahead)+string(rest) != string(s.plain) || f.Used() != used || f.Done() {
			t.Errorf("of % x: %q, %d, then %q, %d, %d, want %q, %d, %d", some(data), some(ahead), e, rest, wrong, f.Used(), some(s.plain), h.e, used)
		}
		finishes(t, f, h.e)
		same(t, limit, data[:last], []byte{b}, []byte{1, 2, 3})
	}
}
