package seek_test

import (
	"math"
	"math/rand"
	"slices"
	"testing"

	"valise/api"
	"valise/seek"
)

func TestBuildArguments(t *testing.T) { // P22.1
	for _, packed := range [][]byte{three(), nil, {7}, {3, 0}} { // ahead of what the text is
		for _, n := range []int{0, -1, math.MinInt} {
			refuses(t, packed, 9, n, api.ErrArg)
		}
		for _, n := range []int{-1, math.MinInt, api.MaxCapacity + 1, math.MaxInt} {
			refuses(t, packed, n, 1, api.ErrArg)
		}
	}
	refuses(t, append(three(), make([]byte, api.MaxPacked)...), 9, 1, api.ErrArg)
	for _, limit := range []int{3, api.MaxCapacity} {
		for _, step := range []int{1, math.MaxInt} {
			built(t, three(), limit, step)
		}
	}
}

func TestBuildErrors(t *testing.T) { // P22.1: those of inflate
	s := eachKind(223)
	data := s.bytes()
	for n := range len(data) { // ErrInfEnd and ErrHeadEnd
		asInflate(t, data[:n], len(s.plain), 1)
	}
	for limit := range len(s.plain) {
		if e := asInflate(t, data, limit, 1); e != api.ErrInfLimit {
			t.Errorf("within %d of %d bytes: %d", limit, len(s.plain), e)
		}
	}
	for _, h := range append(brokenHeaders(), brokenSymbols()...) {
		text := s.bits[:s.blocks[len(s.blocks)-1].Bit]
		if e := asInflate(t, bytesOf(string(text)+h.text), api.MaxCapacity, 1); e != h.e {
			t.Errorf("of a text with %s: %d, want %d", h.text, e, h.e)
		}
	}
	refuses(t, nil, 9, 1, api.ErrInfEnd)
	refuses(t, []byte{0x03, 0x02, 0x00}, 9, 1, api.ErrInfFar)
}

func TestBytesBehind(t *testing.T) { // P22.1, P22.2: they are not looked at
	r := rand.New(rand.NewSource(224))
	for range 200 {
		s := drawnText(r, 6)
		x := built(t, append(s.bytes(), anyBytes(r.Int63(), 1+r.Intn(20))...), len(s.plain), 1)
		marked(t, x, spaced(s.blocks, 1)...)
		tells(t, x, s.bytes(), 0, len(s.plain), string(s.plain))
	}
}

func TestNoBytes(t *testing.T) { // P22.2, P22.3, P22.5: a plain text without bytes
	for _, packed := range [][]byte{{3, 0}, {0, 0, 0, 0xFF, 0xFF, 3, 0}, {1, 0, 0, 0xFF, 0xFF}} {
		x := built(t, packed, 0, 1)
		marked(t, x, api.Mark{})
		if x.Size() != 0 {
			t.Errorf("Size = %d", x.Size())
		}
		tells(t, x, packed, 0, 0, "")
		fails(t, x, packed, 0, 1, api.ErrSeekRange)
	}
}

func TestMarks(t *testing.T) { // P22.2: of blocks that are short, long and without bytes, with every step
	s := eachKind(225)
	size := len(s.plain)
	for _, step := range append(slices.Collect(rising(1, size+3)), math.MaxInt, math.MaxInt-1, math.MaxInt-size) {
		x := built(t, s.bytes(), size, step)
		want := spaced(s.blocks, step)
		marked(t, x, want...)
		if x.Size() != size || step > size && len(want) != 1 {
			t.Errorf("step %d: Size = %d, %d marks", step, x.Size(), len(want))
		}
	}
}

// rising gives the numbers from one up to another.
func rising(from, to int) func(func(int) bool) {
	return func(yield func(int) bool) {
		for ; from <= to; from++ {
			if !yield(from) {
				return
			}
		}
	}
}

func TestMarkAtStep(t *testing.T) { // P22.2: a step from the last mark, not from the last block, and just the step is enough
	s := &speller{}
	for _, n := range []int{3, 0, 3, 4, 0, 0, 9, 10, 11, 1} {
		s.stored(false, anyBytes(226, n), "00000000")
	}
	s.stored(true, "", "00000000")
	var at []int
	for _, m := range built(t, s.bytes(), 50, 10).Marks() {
		at = append(at, m.At)
	}
	if !slices.Equal(at, []int{0, 10, 29, 40}) {
		t.Errorf("the marks stand at %v", at)
	}
	x := built(t, s.bytes(), 50, 1) // of several blocks at one place the first one has the mark
	marked(t, x, spaced(s.blocks, 1)...)
	if n := len(x.Marks()); n != 8 {
		t.Errorf("%d marks, want 8", n)
	}
}

func TestNil(t *testing.T) { // P22.8
	var none *seek.Index
	for _, packed := range [][]byte{nil, three(), make([]byte, api.MaxPacked+1)} {
		for _, to := range []int{-1, 0, 1, math.MaxInt} {
			fails(t, none, packed, 0, to, api.ErrArg)
		}
	}
	if len(none.Marks()) != 0 || none.Size() != 0 {
		t.Errorf("of nil: %v, %d", none.Marks(), none.Size())
	}
}

func TestZero(t *testing.T) { // P0.1: one that Build has not made is of no bytes
	var x seek.Index
	marked(t, &x)
	if x.Size() != 0 {
		t.Errorf("Size = %d", x.Size())
	}
	tells(t, &x, three(), 0, 0, "")
	fails(t, &x, three(), 0, 1, api.ErrSeekRange)
}
