package seek_test

import (
	"slices"
	"testing"

	"valise/api"
	"valise/seek"
)

// built is the index of a packed text that is whole.
func built(t *testing.T, packed []byte, limit, step int) *seek.Index {
	t.Helper()
	x, e := seek.Build(packed, limit, step)
	if x == nil || e != api.OK {
		t.Fatalf("Build(% x, %d, %d) = %v, %d", some(packed), limit, step, x, e)
	}
	return x
}

// refuses asks that Build answers no index, but this error.
func refuses(t *testing.T, packed []byte, limit, step int, want api.Errno) {
	t.Helper()
	if x, e := seek.Build(packed, limit, step); x != nil || e != want {
		t.Errorf("Build(% x, %d, %d) = %v, %d, want %d", some(packed), limit, step, x, e, want)
	}
}

// marked asks for an index's marks.
func marked(t *testing.T, x *seek.Index, want ...api.Mark) {
	t.Helper()
	if marks := x.Marks(); !slices.Equal(marks, want) {
		t.Errorf("Marks = %v, want %v", marks, want)
	}
}

// tells asks for the plain bytes of a range, fails for its error.
func tells(t *testing.T, x *seek.Index, packed []byte, from, to int, want string) {
	t.Helper()
	if out, e := x.Range(packed, from, to); string(out) != want || e != api.OK {
		t.Errorf("Range(% x, %d, %d) = %q, %d, want %q", some(packed), from, to, some(out), e, some([]byte(want)))
	}
}

func fails(t *testing.T, x *seek.Index, packed []byte, from, to int, want api.Errno) {
	t.Helper()
	if out, e := x.Range(packed, from, to); out != nil || e != want {
		t.Errorf("Range(% x, %d, %d) = %q, %d, want %d", some(packed), from, to, some(out), e, want)
	}
}

// three is the chapter's text of three blocks.
func three() []byte {
	return []byte{0x00, 0x02, 0x00, 0xFD, 0xFF, 0x68, 0x69, 0x4A, 0x04, 0x04, 0x00, 0x00, 0xFF, 0xFF}
}

// put is a packed text with these bytes in the place of its own, from a place on.
func put(packed []byte, at int, more ...byte) []byte {
	copy(packed[at:], more)
	return packed
}

func TestExampleBuild(t *testing.T) { // example 1
	first, second, third := api.Mark{}, api.Mark{Bit: 56, At: 2}, api.Mark{Bit: 74, At: 3}
	for step, want := range [][]api.Mark{1: {first, second, third}, 2: {first, second}, 3: {first, third}, 4: {first}} {
		if step > 0 {
			x := built(t, three(), 9, step)
			marked(t, x, want...)
			if x.Size() != 3 {
				t.Errorf("Size = %d, want 3", x.Size())
			}
		}
	}
	refuses(t, three(), 2, 1, api.ErrInfLimit)
	refuses(t, three(), 9, 0, api.ErrArg)
}

func TestExampleRange(t *testing.T) { // example 2
	x := built(t, three(), 9, 1)
	tells(t, x, three(), 0, 3, "hia")
	tells(t, x, three(), 2, 3, "a")
	tells(t, x, three(), 3, 3, "")
	fails(t, x, three(), 1, 4, api.ErrSeekRange)
	fails(t, x, three(), -1, 1, api.ErrSeekRange)
	fails(t, x, three(), 2, 1, api.ErrSeekRange)
}

func TestExampleParts(t *testing.T) { // example 3
	x := built(t, three(), 9, 1)
	tells(t, x, three()[:9], 2, 3, "a")
	tells(t, x, []byte{0xFF, 0xFF, 0xFF, 0xFF, 0xFF, 0xFF, 0xFF, 0x4A, 0x04}, 2, 3, "a")
	fails(t, x, three()[:8], 2, 3, api.ErrInfEnd)
	fails(t, x, nil, 2, 3, api.ErrInfEnd)
	tells(t, x, nil, 1, 1, "")
}

func TestExampleOtherBytes(t *testing.T) { // example 4
	x := built(t, three(), 9, 1)
	fails(t, x, put(three(), 7, 0x07), 2, 3, api.ErrInfKind)
	fails(t, x, put(three(), 7, 0x03, 0x00), 2, 3, api.ErrInfSize)
	tells(t, x, put(three(), 7, 0x03, 0x00), 0, 2, "hi")
}

func TestExampleCopy(t *testing.T) { // example 5
	q := []byte{0x4A, 0x04, 0x0C, 0x08, 0x00}
	x := built(t, q, 9, 1)
	marked(t, x, api.Mark{}, api.Mark{Bit: 18, At: 1})
	tells(t, x, q, 1, 4, "aaa")
	tells(t, x, q, 2, 3, "a")
}
