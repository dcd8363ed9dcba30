package seek_test

import (
	"bytes"
	"math"
	"math/rand"
	"strings"
	"testing"

	"valise/api"
	"valise/seek"
)

// small is the first numbers of a header and the lengths of its small code, in the header's order.
func small(lit, dist int, lens ...int) string {
	text := row(lit-257, 5) + row(dist-1, 5) + row(15, 4)
	for _, n := range append(lens, make([]int, 19-len(lens))...) {
		text += row(n, 3)
	}
	return text
}

// four is the same with the words 00 for the length 0, 01 for the length 1, 10 for a repeat and 11 for many zeros.
func four(lit, dist int) string {
	return small(lit, dist, 2, 0, 2, 2, 0, 0, 0, 0, 0, 0, 0, 0, 0, 0, 0, 0, 0, 2)
}

// broken is a block that goes wrong with its last bit, with up to 16384 plain bytes ahead of it. From whole on its bits are those of the item that goes wrong.
type broken struct {
	text  string
	whole int
	e     api.Errno
}

// brokenHeaders is the beginnings of dynamic blocks.
func brokenHeaders() []broken {
	zeros := "11" + row(127, 7) // 138 of them
	most := zeros + "11" + row(107, 7)
	all := []broken{
		{row(30, 5) + row(0, 5) + row(0, 4), 3, api.ErrHeadCounts}, {row(0, 5) + row(30, 5) + row(0, 4), 3, api.ErrHeadCounts}, {row(31, 14), 3, api.ErrHeadCounts},
		{small(257, 1), 3, api.ErrHeadMeta}, {small(257, 1, 1), 3, api.ErrHeadMeta}, {small(286, 30, 1, 1, 1), 3, api.ErrHeadMeta}, {small(257, 1, 2, 2, 2), 3, api.ErrHeadMeta},
		{four(257, 1) + "1000", 3, api.ErrHeadRepeat}, {four(286, 30) + "1011", 3, api.ErrHeadRepeat},
		{four(257, 1) + zeros + zeros, 3, api.ErrHeadOver}, {four(257, 2) + most + "01" + "00" + "1000", 3, api.ErrHeadOver}, {four(257, 1) + most + "1001", 3, api.ErrHeadOver},
		{four(257, 1) + most + "0000", 3, api.ErrHeadLit}, {four(257, 1) + most + "0001", 3, api.ErrHeadLit}, {four(259, 1) + most + "01010100", 3, api.ErrHeadLit},
		{four(257, 3) + most + "01010101", 3, api.ErrHeadDist}, {four(258, 4) + most + "0101" + "1000" + "01", 3, api.ErrHeadDist},
	}
	for i, h := range all {
		all[i].text = row(4+i%2, 3) + h.text
	}
	return all
}

// brokenSymbols is blocks that go wrong in their first symbol or copy.
func brokenSymbols() []broken {
	w := fixedWords()
	all := []broken{{row(6, 3), 0, api.ErrInfKind}, {row(7, 3), 0, api.ErrInfKind}}
	for _, h := range []broken{
		{w.lit[286], 3, api.ErrInfSymbol}, {w.lit[287], 3, api.ErrInfSymbol}, {w.lit[257] + w.dist[30], 3, api.ErrInfSymbol}, {w.lit[265] + "1" + w.dist[31], 3, api.ErrInfSymbol},
		{w.lit[257] + w.dist[28] + row(0, 13), 3, api.ErrInfFar}, {w.lit[285] + w.dist[29] + strings.Repeat("1", 13), 3, api.ErrInfFar},
	} {
		all = append(all, broken{row(2, 3) + h.text, h.whole, h.e})
	}
	for _, h := range []struct {
		lit, dist []int
		text      string
		e         api.Errno
	}{
		{lits(256, 1), nil, "1", api.ErrInfSymbol}, {lits(256, 1, 257, 1), nil, "1", api.ErrInfSymbol}, {lits(256, 1, 257, 1), []int{1}, "11", api.ErrInfSymbol}, {lits(256, 1, 257, 1), append(make([]int, 29), 1), "10" + row(0, 13), api.ErrInfFar},
	} {
		s := &speller{}
		s.dynamic(false, h.lit, h.dist)
		all = append(all, broken{string(s.bits) + h.text, len(s.bits), h.e})
	}
	return all
}

func TestRangeArguments(t *testing.T) { // P22.5: ErrArg, then ErrSeekRange, then nothing of an empty range
	x := built(t, three(), 3, 1)
	long := append(three(), make([]byte, api.MaxPacked-14)...)
	tells(t, x, long, 0, 3, "hia")
	long = append(long, 0)
	for _, at := range [][2]int{{0, 3}, {0, 0}, {3, 3}, {-1, 1}, {1, 4}, {2, 1}} {
		fails(t, x, long, at[0], at[1], api.ErrArg)
	}
	for _, packed := range [][]byte{three(), nil, {7}} {
		for _, at := range [][2]int{{-1, 0}, {-1, -1}, {0, -1}, {1, 0}, {3, 2}, {0, 4}, {3, 4}, {4, 4}, {5, 4}, {4, 3}, {math.MinInt, 3}, {0, math.MaxInt}, {math.MinInt, math.MaxInt}, {math.MaxInt, math.MaxInt}, {math.MinInt, math.MinInt}, {math.MaxInt, math.MinInt}} {
			fails(t, x, packed, at[0], at[1], api.ErrSeekRange)
		}
		for at := range 4 {
			tells(t, x, packed, at, at, "")
		}
	}
}

func TestEveryRange(t *testing.T) { // P22.6: over the bytes that Build saw, and over no more of them than are needed
	s := eachKind(227)
	data := s.bytes()
	for _, step := range []int{1, 41, 150, math.MaxInt} {
		x := built(t, data, len(s.plain), step)
		marks := spaced(s.blocks, step)
		for from := range len(s.plain) + 1 {
			tells(t, x, data, from, from, "")
			for to := from + 1; to <= len(s.plain); to++ {
				tells(t, x, data, from, to, string(s.plain[from:to]))
				if from%9 == 0 || to < from+3 {
					needed(t, x, s, marks, from, to)
				}
			}
		}
	}
}

// needed asks that a range is told by the bytes from the one in which the mark stands up to the one in which the last needed bit stands, and by no fewer.
func needed(t *testing.T, x *seek.Index, s *speller, marks []api.Mark, from, to int) {
	t.Helper()
	var mark, last api.Mark
	for _, m := range marks {
		if m.At <= from {
			mark = m
		}
	}
	for _, last = range s.ends {
		if last.At >= to {
			break
		}
	}
	data := s.bytes()[:(last.Bit+7)/8]
	for _, fill := range []byte{0, 0xFF} {
		for i := range mark.Bit / 8 {
			data[i] = fill
		}
		for i := range mark.Bit % 8 {
			data[mark.Bit/8] = data[mark.Bit/8]&^(1<<i) | fill&(1<<i)
		}
		for i := (last.Bit-1)%8 + 1; i < 8; i++ {
			data[last.Bit/8] = data[last.Bit/8]&^(1<<i) | fill&(1<<i)
		}
		tells(t, x, data, from, to, string(s.plain[from:to]))
		tells(t, x, append(data, fill, fill, fill), from, to, string(s.plain[from:to]))
	}
	_, want := modelRange(data[:len(data)-1], marks, s.plain, from, to)
	if want != api.ErrInfEnd && want != api.ErrHeadEnd {
		t.Errorf("a byte fewer: %d", want)
	}
	fails(t, x, data[:len(data)-1], from, to, want)
}

func TestBrokenItems(t *testing.T) { // P22.5: each error at its bit, on from a mark at any bit; cut ahead of it, an item isn't whole
	for _, h := range append(brokenHeaders(), brokenSymbols()...) {
		for ahead := range 8 {
			s := &speller{}
			s.literals(s.fixed(false), strings.Repeat("\xFF", ahead)+"a") // 9 bits each, then 8
			s.end(fixedWords())
			s.stored(true, "more", "00000000")
			x := built(t, s.bytes(), len(s.plain), 1)
			mark := s.blocks[1]
			for _, fill := range []string{"", "1111111111", "0000000000"} {
				data := bytesOf(string(s.bits[:mark.Bit]) + h.text + fill)
				fails(t, x, data, mark.At, mark.At+1, h.e)
				fails(t, x, data, 0, mark.At+1, h.e)
				tells(t, x, data, 0, mark.At, string(s.plain[:mark.At]))
			}
			cutOff(t, x, h, mark, string(s.bits[:mark.Bit])+h.text)
		}
	}
}

// cutOff cuts bytes off from a text that is broken behind a mark: the item that it is cut in isn't whole.
func cutOff(t *testing.T, x *seek.Index, h broken, mark api.Mark, text string) {
	t.Helper()
	data := bytesOf(text)
	for n := range (len(text) - 1) / 8 {
		left := 8*n - mark.Bit // bits behind the mark
		want := api.ErrInfEnd
		dynamic := len(h.text) > 2 && h.text[1:3] == "01"
		if head := h.whole; dynamic && left >= 3 && (head == 3 || left < head) {
			want = api.ErrHeadEnd
		}
		fails(t, x, data[:n], mark.At, mark.At+1, want)
	}
}

func TestStoredWrong(t *testing.T) { // P22.5: the numbers, the bytes, and where the bits end
	s := &speller{}
	s.literals(s.fixed(false), "ab")
	s.end(fixedWords())
	s.stored(true, "hello", "1111111")
	x := built(t, s.bytes(), 7, 1)
	data := s.bytes()
	at := len(data) - 9 // of the two numbers
	for bit := range 32 {
		spoilt := s.bytes()
		spoilt[at+bit/8] ^= 1 << (bit % 8)
		fails(t, x, spoilt, 2, 3, api.ErrInfStored)
		fails(t, x, spoilt[:at+4], 0, 3, api.ErrInfStored)
		fails(t, x, spoilt[:at+3], 0, 3, api.ErrInfEnd)
		tells(t, x, spoilt, 0, 2, "ab")
	}
	for n := range 5 {
		fails(t, x, data[:at+4+n], 2, 3+n, api.ErrInfEnd)
		tells(t, x, data[:at+5+n], 2, 3+n, "hello"[:n+1])
		tells(t, x, put(s.bytes(), at, byte(n+1), 0, byte(254-n), 255), 2, 3+n, "hello"[:n+1])
		fails(t, x, put(s.bytes(), at, byte(n), 0, byte(255-n), 255), 2, 3+n, api.ErrInfSize)
	}
	tells(t, x, put(s.bytes(), at, 0xFF, 0xFF, 0, 0), 2, 7, "hello") // there is no limit, and the rest is not needed
}

func TestMarkBehindTheEnd(t *testing.T) { // P22.5: the bit of the mark may be behind the bits
	s := eachKind(228)
	x := built(t, s.bytes(), len(s.plain), 1)
	for _, m := range x.Marks() {
		if m.At == len(s.plain) {
			continue
		}
		for n := range m.Bit / 8 {
			fails(t, x, bytes.Repeat([]byte{0xFF}, n), m.At, m.At+1, api.ErrInfEnd)
		}
		at := m.Bit / 8 * 8
		fails(t, x, bytesOf(string(s.bits[:at])), m.At, m.At+1, api.ErrInfEnd)
	}
}

func TestLastBlock(t *testing.T) { // P22.5: ErrInfSize where the last block has ended too early, OK where it ends just there
	s := &speller{}
	s.stored(false, "0123456789", "00000000")
	s.stored(true, "abcdef", "00000000")
	x := built(t, s.bytes(), 16, 1)
	mark := s.blocks[1]
	for n := range 7 {
		for kind := range 3 {
			p := &speller{bits: bytes.Clone(s.bits[:mark.Bit]), plain: []byte("0123456789")}
			switch kind {
			case 0:
				p.stored(true, "uvwxyz"[:n], "00000000")
			case 1:
				w := p.fixed(true)
				p.literals(w, "uvwxyz"[:n])
				p.end(w)
			default:
				w := p.dynamic(true, lits('u', 3, 'v', 3, 'w', 3, 'x', 3, 'y', 3, 'z', 3, 256, 2), nil)
				p.literals(w, "uvwxyz"[:n])
				p.end(w)
			}
			data := append(p.bytes(), s.bytes()...)
			for to := 11; to <= 16; to++ {
				if to <= 10+n {
					tells(t, x, data, 10, to, "uvwxyz"[:to-10])
				} else {
					fails(t, x, data, 10, to, api.ErrInfSize)
					fails(t, x, data, to-1, to, api.ErrInfSize)
				}
			}
		}
	}
}

func TestCopyBeyond(t *testing.T) { // P22.5: what a copy says beyond the range is let go, and what stands behind it is not looked at
	s := &speller{}
	s.stored(false, "0123456789", "00000000")
	w := s.fixed(true)
	s.literals(w, "a")
	s.copies(w, 258, 11)
	s.copies(w, 3, 258)
	s.end(w)
	x := built(t, s.bytes(), len(s.plain), 1)
	text := string(s.bits[:s.ends[len(s.ends)-3].Bit]) // up to the long copy
	for _, fill := range []string{"", strings.Repeat("1", 40), strings.Repeat("0", 40), w.lit[286], w.lit[256]} {
		data := bytesOf(text + fill)
		for from := 10; from < 269; from++ {
			tells(t, x, data, from, 269, string(s.plain[from:269]))
			tells(t, x, data, from, from+1, string(s.plain[from:from+1]))
		}
	}
	fails(t, x, bytesOf(text+w.lit[286]), 268, 270, api.ErrInfSymbol)
	fails(t, x, bytesOf(text+w.lit[285]+w.dist[29]+row(8191, 13)), 11, 270, api.ErrInfFar)
	tells(t, x, bytesOf(text+w.copied(258, 269)), 11, 272, string(s.plain[11:269])+"012")
}

func TestPieces(t *testing.T) { // P22.5: an item that goes wrong, or isn't whole, wherever it stands behind the mark, thousands of bytes on too
	s := &speller{}
	s.stored(true, strings.Repeat("x", 9000), "00000000")
	x := built(t, s.bytes(), 9000, 1)
	for i, h := range append(brokenHeaders(), brokenSymbols()...) {
		for n := 1024 - 60; n < 1030; n++ {
			brokenBehind(t, x, s, h, n, (n+i)%8)
		}
		for _, border := range []int{3072, 7168} { // where a reading that takes twice as much each time would end what it has taken
			for n := border - 60 + i%5; n < border+5; n += 5 {
				brokenBehind(t, x, s, h, n, (n+i)%8)
			}
		}
	}
}

// brokenBehind asks for the error of a block behind n bytes x and some blocks without bytes, and of the same without its last byte.
func brokenBehind(t *testing.T, x *seek.Index, s *speller, h broken, n, empty int) {
	t.Helper()
	p := &speller{}
	p.stored(false, strings.Repeat("x", n), "00000000")
	for range empty {
		p.end(p.fixed(false)) // 10 bits each
	}
	data := bytesOf(string(p.bits) + h.text)
	fails(t, x, data, 0, n+1, h.e)
	fails(t, x, append(bytes.Clone(data), make([]byte, 5000)...), 0, n+1, h.e)
	fewer := data[:len(data)-1]
	_, want := modelRange(fewer, []api.Mark{{}}, s.plain, 0, n+1)
	if want != api.ErrInfEnd && want != api.ErrHeadEnd {
		t.Errorf("a byte fewer: %d", want)
	}
	fails(t, x, fewer, 0, n+1, want)
	tells(t, x, data, n-1, n, "x")
}

func TestLongTexts(t *testing.T) { // P22.5, P22.6: blocks that are longer than what one reading may begin with
	r := rand.New(rand.NewSource(229))
	for range 6 {
		s := &speller{}
		s.stored(false, anyBytes(r.Int63(), 500+r.Intn(4000)), "00000000")
		for final := range 2 {
			lit, dist := complete(r, 286), complete(r, 30)
			for lit[256] == 0 {
				lit = complete(r, 286)
			}
			w := s.dynamic(final == 1, lit, dist)
			for len(s.bits)-s.blocks[len(s.blocks)-1].Bit < 60000 {
				s.drawnRow(r, w)
			}
			s.end(w)
		}
		data := s.bytes()
		x := built(t, data, len(s.plain), 1+r.Intn(9000))
		for range 300 {
			from := r.Intn(len(s.plain))
			to := from + 1 + r.Intn(len(s.plain)-from)
			tells(t, x, data, from, to, string(s.plain[from:to]))
			tells(t, x, data, from, from+1, string(s.plain[from:from+1]))
		}
	}
}

// drawnRow draws a literal or a copy of a block.
func (s *speller) drawnRow(r *rand.Rand, w words) {
	symbol := r.Intn(286)
	switch {
	case w.lit[symbol] == "" || symbol == 256:
	case symbol < 256:
		s.literals(w, string([]byte{byte(symbol)}))
	default:
		s.drawnCopy(r, w, symbol-257)
	}
}
