package seek_test

import (
	"bytes"
	"math/rand"
	"sync"
	"testing"

	"valise/api"
	"valise/seek"
)

// spoil writes over a list and over the room behind its end.
func spoil(list []byte) {
	list = list[:cap(list)]
	for i := range list {
		list[i] = 'q'
	}
}

// roomy is a list with room behind its end.
func roomy(data []byte) []byte {
	return append(bytes.Clone(data), "the room behind"...)[:len(data)]
}

// kept asks that a list that was made by roomy is as it was.
func kept(t *testing.T, list, was []byte) {
	t.Helper()
	if whole := list[:cap(list)]; !bytes.Equal(list, was) || !bytes.HasPrefix(whole[len(list):], []byte("the room behind")) {
		t.Errorf("a list that was handed in has changed: %q", some(whole))
	}
}

func TestMemoryOfPacked(t *testing.T) { // P0.3, P22.7: neither changed nor kept
	s := eachKind(230)
	data := s.bytes()
	packed := roomy(data)
	x := built(t, packed, len(s.plain), 1)
	kept(t, packed, data)
	spoil(packed)
	marked(t, x, spaced(s.blocks, 1)...)
	for from := range s.plain {
		again := roomy(data)
		tells(t, x, again, from, len(s.plain), string(s.plain[from:]))
		kept(t, again, data)
		spoil(again)
	}
	tells(t, x, data, 0, len(s.plain), string(s.plain))
}

func TestMemoryOfAnswers(t *testing.T) { // P0.3, P22.7: no answer shares any with the index, nor with another answer
	s := eachKind(231)
	data := s.bytes()
	x := built(t, data, len(s.plain), 1)
	want := spaced(s.blocks, 1)
	marks, again := x.Marks(), x.Marks()
	for i := range marks {
		marks[i] = api.Mark{Bit: 7, At: 7}
	}
	for _, l := range [][]api.Mark{marks[:cap(marks)], append(again, api.Mark{})} {
		clear(l)
	}
	marked(t, x, want...)
	for from := range s.plain {
		for _, to := range []int{from + 1, min(from+40, len(s.plain)), len(s.plain)} {
			a, _ := x.Range(data, from, to)
			b, _ := x.Range(data, from, to)
			spoil(a)
			if !bytes.Equal(b, s.plain[from:to]) || !bytes.Equal(data, s.bytes()) {
				t.Errorf("Range(%d, %d) shares memory", from, to)
			}
			spoil(b)
			tells(t, x, data, from, to, string(s.plain[from:to]))
		}
	}
	tells(t, x, data, 0, len(s.plain), string(s.plain))
}

func TestRangesLeaveTheIndex(t *testing.T) { // P22.7: whatever bytes they were given, in any order
	s, r := eachKind(232), rand.New(rand.NewSource(232))
	data := s.bytes()
	x, fresh := built(t, data, len(s.plain), 1), built(t, data, len(s.plain), 1)
	for range 3000 {
		m := spaced(s.blocks, 1)[r.Intn(4)] // the last one stands behind all bytes
		x.Range(other(r, s, m.Bit), m.At, m.At+1+r.Intn(len(s.plain)-m.At))
		from := r.Intn(len(s.plain))
		to := from + r.Intn(len(s.plain)-from+1)
		tells(t, x, data, from, to, string(s.plain[from:to]))
		packed := other(r, s, m.Bit)
		out, e := x.Range(packed, from, to)
		again, againE := fresh.Range(packed, from, to)
		if !bytes.Equal(out, again) || e != againE {
			t.Errorf("Range(% x, %d, %d) = %q, %d, of a fresh index %q, %d", some(packed), from, to, some(out), e, some(again), againE)
		}
	}
	marked(t, x, fresh.Marks()...)
}

func TestApart(t *testing.T) { // P22.7, P0.7: of several indexes, side by side
	var all sync.WaitGroup
	for i := range 8 {
		s := eachKind(int64(233 + i))
		x := built(t, s.bytes(), len(s.plain), 1+i)
		one := func(x *seek.Index, from int) {
			tells(t, x, s.bytes(), from, len(s.plain), string(s.plain[from:]))
			marked(t, x, spaced(s.blocks, 1+i)...)
		}
		for range 2 { // an index isn't changed by Range: so it may be asked by several at once
			all.Go(func() {
				for from := range s.plain {
					one(x, from)
				}
			})
		}
	}
	all.Wait()
}
