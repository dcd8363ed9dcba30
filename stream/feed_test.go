package stream_test

import (
	"bytes"
	"strings"
	"sync"
	"testing"

	"valise/api"
	"valise/stream"
)

func TestLimits(t *testing.T) { // P18.1
	for _, limit := range []int{-1, -1 << 63, api.MaxCapacity + 1, 1<<63 - 1} {
		if f, e := stream.NewInflater(limit); f != nil || e != api.ErrArg {
			t.Errorf("NewInflater(%d) = %v, %d", limit, f, e)
		}
	}
	for _, limit := range []int{0, 1, api.MaxCapacity} {
		f := begun(t, limit)
		feeds(t, f, []byte{3, 0}, "", api.OK, true, 10)
		finishes(t, f, api.OK)
	}
}

func TestNil(t *testing.T) { // P18.11, P0.6
	var f *stream.Inflater
	for _, piece := range [][]byte{nil, {}, {3, 0}, {7}, make([]byte, api.MaxPacked+1)} {
		if out, e := f.Feed(piece); out != nil || e != api.ErrArg || f.Done() || f.Used() != 0 {
			t.Errorf("Feed of nil: %q, %d, %v, %d", out, e, f.Done(), f.Used())
		}
	}
	finishes(t, f, api.ErrArg)
}

func TestZero(t *testing.T) { // P0.1: one that no call has made is as one with the limit 0
	var f stream.Inflater
	feeds(t, &f, []byte{3}, "", api.OK, false, 3)
	feeds(t, &f, []byte{0}, "", api.OK, true, 10)
	finishes(t, &f, api.OK)
	feeds(t, &stream.Inflater{}, []byte{0x4B, 0x04, 0x00}, "", api.ErrInfLimit, false, 3)
	finishes(t, &stream.Inflater{}, api.ErrInfEnd)
}

func TestEmptyPieces(t *testing.T) { // P18.6, P0.2
	s := drawnBlocks(184)
	data := s.bytes()
	f := begun(t, len(s.plain))
	var told []byte
	for i := range data {
		for _, empty := range [][]byte{nil, {}, []byte("room")[:0]} {
			feeds(t, f, empty, "", api.OK, f.Done(), f.Used())
		}
		out, _ := f.Feed(data[i : i+1])
		told = append(told, out...)
	}
	if !bytes.Equal(told, s.plain) || !f.Done() {
		t.Errorf("%q, %v, want %q", some(told), f.Done(), some(s.plain))
	}
	for _, empty := range [][]byte{nil, {}} {
		feeds(t, f, empty, "", api.OK, true, s.size)
	}
	finishes(t, f, api.OK)
	for _, e := range []api.Errno{api.ErrInfKind, api.ErrInfEnd} { // where an error stands they bring it
		f := begun(t, 0)
		if e == api.ErrInfKind {
			f.Feed([]byte{6})
		}
		f.Finish()
		feeds(t, f, nil, "", e, false, 0)
		feeds(t, f, []byte{}, "", e, false, 0)
	}
}

// drawnBlocks is a text with a block of each kind, the copies of which reach into the blocks ahead.
func drawnBlocks(seed int64) *speller {
	s := &speller{}
	s.stored(false, anyBytes(seed, 40), "01101101")
	w := s.fixed(false)
	s.literals(w, "a fixed block")
	s.copies(w, 40, 53)
	s.copies(w, 258, 1)
	s.end(w)
	s.stored(false, "", "11111111")
	w = s.dynamic(false, lits('x', 2, 'y', 2, 256, 2, 257, 2), []int{1, 0, 0, 0, 2, 0, 0, 0, 0, 0, 0, 0, 2})
	s.literals(w, "xyxyxxyy")
	s.copies(w, 3, 1)
	s.copies(w, 3, 6)
	s.copies(w, 3, 70)
	s.end(w)
	s.stored(true, anyBytes(seed+1, 20), "00000000")
	return s
}

func TestEveryCut(t *testing.T) { // P18.8: all ways to cut a text into two, and into three
	s := drawnBlocks(185)
	data := append(s.bytes(), 'x')
	for limit, want := range map[int]api.Errno{len(s.plain): api.ErrOver, len(s.plain) - 1: api.ErrInfLimit, 60: api.ErrInfLimit} {
		whole := begun(t, limit)
		plain, _ := whole.Feed(data)
		for i := range len(data) + 1 {
			for _, j := range []int{i, (i + len(data)) / 2, min(i+1, len(data)), len(data)} {
				f := begun(t, limit)
				var told []byte
				e := api.OK
				for _, piece := range [][]byte{data[:i], data[i:j], data[j:]} {
					var out []byte
					out, e = f.Feed(piece)
					told = append(told, out...)
				}
				if !bytes.Equal(told, plain) || e != want || f.Done() != whole.Done() || f.Used() != whole.Used() {
					t.Errorf("cut at %d and %d, within %d: %d bytes, %d, %v, %d", i, j, limit, len(told), e, f.Done(), f.Used())
				}
			}
		}
	}
}

func TestStoredAsTheyCome(t *testing.T) { // P18.2, P18.4: the bits up to the border belong to the two numbers
	for ahead := range 8 {
		for _, fill := range []string{"00000000", "11111111", "01011010"} {
			s := &speller{}
			s.literals(s.fixed(false), strings.Repeat("\xFF", ahead))
			s.end(fixedWords())
			from := s.size + 3
			s.stored(true, "hello", fill)
			data := s.bytes()
			border := (from + 7) / 8
			f := begun(t, len(s.plain))
			out, e := f.Feed(data[:border])
			if string(out) != strings.Repeat("\xFF", ahead) || e != api.OK || f.Used() != from {
				t.Errorf("ahead of the border: %q, %d, %d, want %d", out, e, f.Used(), from)
			}
			for i := range 3 {
				feeds(t, f, data[border+i:border+i+1], "", api.OK, false, from)
			}
			feeds(t, f, data[border+3:border+4], "", api.OK, false, 8*(border+4))
			for i := range 5 {
				feeds(t, f, data[border+4+i:border+5+i], "hello"[i:i+1], api.OK, i == 4, 8*(border+5+i))
			}
			finishes(t, f, api.OK)
		}
	}
}

func TestStoredWrong(t *testing.T) { // P18.2: ErrInfStored ahead of ErrInfLimit, both with the last bit of the two numbers
	for bit := range 32 {
		s := &speller{}
		s.stored(true, strings.Repeat("x", 9), "00000000")
		data := s.bytes()
		data[1+bit/8] ^= 1 << (bit % 8)
		for _, limit := range []int{0, 9, api.MaxCapacity} {
			f := begun(t, limit)
			feeds(t, f, data[:4], "", api.OK, false, 3)
			feeds(t, f, data[4:], "", api.ErrInfStored, false, 3)
		}
	}
	f := begun(t, 8)
	feeds(t, f, []byte{1, 9, 0, 0xF6}, "", api.OK, false, 3)
	feeds(t, f, []byte{0xFF}, "", api.ErrInfLimit, false, 3)
	finishes(t, f, api.ErrInfLimit)
}

func TestNothingAtTheLimit(t *testing.T) { // P18.2: blocks without bytes are read where the limit is reached
	s := &speller{}
	s.stored(false, "ab", "00000000")
	s.stored(false, "", "00000000")
	s.end(s.fixed(false))
	s.end(s.dynamic(false, lits(256, 1), nil))
	s.stored(true, "", "11111111")
	for _, e := range []api.Errno{same(t, 2, single(s.bytes())...), same(t, 2, s.bytes()), same(t, 3, s.bytes())} {
		if e != api.OK {
			t.Errorf("within the limit: %d", e)
		}
	}
	if e := same(t, 1, single(s.bytes())...); e != api.ErrInfLimit {
		t.Errorf("beyond the limit: %d", e)
	}
}

func TestOver(t *testing.T) { // P18.2, P18.4, P18.5: bits of the last byte are none behind it
	for ahead := range 8 {
		s := &speller{}
		s.literals(s.fixed(true), strings.Repeat("\xFF", ahead))
		s.end(fixedWords())
		data := bytesOf(s.text() + strings.Repeat("1", (8-s.size%8)%8))
		for _, more := range [][]byte{{0}, {1, 2, 3}} {
			f := begun(t, 100)
			feeds(t, f, data, string(s.plain), api.OK, true, s.size)
			feeds(t, f, nil, "", api.OK, true, s.size)
			finishes(t, f, api.OK)
			feeds(t, f, more, "", api.ErrOver, true, s.size)
			feeds(t, f, nil, "", api.ErrOver, true, s.size)
			finishes(t, f, api.ErrOver)
			feeds(t, begun(t, 100), append(bytes.Clone(data), more...), string(s.plain), api.ErrOver, true, s.size)
		}
	}
}

func TestFinishStands(t *testing.T) { // P18.3, P18.5: what would have made the text whole comes too late
	s := drawnBlocks(186)
	data := s.bytes()
	for n := range len(data) {
		f := begun(t, len(s.plain))
		f.Feed(data[:n])
		used := f.Used()
		finishes(t, f, api.ErrInfEnd)
		feeds(t, f, data[n:], "", api.ErrInfEnd, false, used)
		feeds(t, f, nil, "", api.ErrInfEnd, false, used)
		finishes(t, f, api.ErrInfEnd)
	}
}

func TestApart(t *testing.T) { // P18.11, P0.7: in turns, and side by side
	s, other := drawnBlocks(187), drawnBlocks(188)
	f, g := begun(t, len(s.plain)), begun(t, len(other.plain))
	var told, otherTold []byte
	for i := range s.bytes() {
		a, _ := f.Feed(s.bytes()[i : i+1])
		b, _ := g.Feed(other.bytes()[i : i+1])
		told, otherTold = append(told, a...), append(otherTold, b...)
	}
	if !bytes.Equal(told, s.plain) || !bytes.Equal(otherTold, other.plain) || !f.Done() || !g.Done() {
		t.Errorf("in turns: %q and %q", some(told), some(otherTold))
	}
	var all sync.WaitGroup
	for range 8 {
		all.Go(func() {
			f, _ := stream.NewInflater(len(s.plain))
			var told []byte
			for i := range s.bytes() {
				out, _ := f.Feed(s.bytes()[i : i+1])
				told = append(told, out...)
			}
			if !bytes.Equal(told, s.plain) || f.Finish() != api.OK {
				t.Errorf("side by side: %q", some(told))
			}
		})
	}
	all.Wait()
}
