package stream_test

import (
	"testing"

	"valise/api"
	"valise/stream"
)

// begun is a new inflater.
func begun(t *testing.T, limit int) *stream.Inflater {
	t.Helper()
	f, e := stream.NewInflater(limit)
	if f == nil || e != api.OK || f.Done() || f.Used() != 0 {
		t.Fatalf("NewInflater(%d) = %v, %d", limit, f, e)
	}
	return f
}

// feeds asks what a piece brings, and what Done and Used tell behind it.
func feeds(t *testing.T, f *stream.Inflater, piece []byte, want string, wantE api.Errno, done bool, used int) {
	t.Helper()
	out, e := f.Feed(piece)
	if string(out) != want || e != wantE || f.Done() != done || f.Used() != used {
		t.Errorf("Feed(% x) = %q, %d, then %v, %d, want %q, %d, %v, %d", some(piece), some(out), e, f.Done(), f.Used(), some([]byte(want)), wantE, done, used)
	}
}

// finishes asks twice what Finish answers: it changes nothing of Done and Used.
func finishes(t *testing.T, f *stream.Inflater, want api.Errno) {
	t.Helper()
	done, used := f.Done(), f.Used()
	for range 2 {
		if e := f.Finish(); e != want || f.Done() != done || f.Used() != used {
			t.Errorf("Finish = %d, then %v, %d, want %d, %v, %d", e, f.Done(), f.Used(), want, done, used)
		}
	}
}

// pipes asks what Pipe answers.
func pipes(t *testing.T, limit int, want string, wantE api.Errno, pieces ...[]byte) {
	t.Helper()
	if out, e := stream.Pipe(limit, pieces...); string(out) != want || e != wantE || e != api.OK && out != nil {
		t.Errorf("Pipe(%d, %d pieces) = %q, %d, want %q, %d", limit, len(pieces), some(out), e, some([]byte(want)), wantE)
	}
}

func TestExampleByteByByte(t *testing.T) { // example 1
	f := begun(t, 9)
	feeds(t, f, []byte{0x4B}, "", api.OK, false, 3)
	feeds(t, f, []byte{0x04}, "a", api.OK, false, 11)
	feeds(t, f, []byte{0x02}, "aaa", api.OK, false, 23)
	feeds(t, f, []byte{0x00}, "", api.OK, true, 30)
	finishes(t, f, api.OK)
	feeds(t, f, nil, "", api.OK, true, 30)
	feeds(t, f, []byte{0x00}, "", api.ErrOver, true, 30)
	finishes(t, f, api.ErrOver)
}

func TestExampleOver(t *testing.T) { // example 2
	f := begun(t, 9)
	feeds(t, f, []byte{0x4B, 0x04, 0x02, 0x00, 0x00}, "aaaa", api.ErrOver, true, 30)
	feeds(t, f, []byte{0x00}, "", api.ErrOver, true, 30)
}

func TestExampleLimit(t *testing.T) { // example 3
	feeds(t, begun(t, 2), []byte{0x4B, 0x04, 0x02, 0x00}, "a", api.ErrInfLimit, false, 11)
}

func TestExampleStored(t *testing.T) { // example 4
	f := begun(t, 5)
	feeds(t, f, []byte{0x01, 0x02, 0x00, 0xFD}, "", api.OK, false, 3)
	feeds(t, f, []byte{0xFF, 0x68}, "h", api.OK, false, 48)
	finishes(t, f, api.ErrInfEnd)
	feeds(t, f, []byte{0x69}, "", api.ErrInfEnd, false, 48)
}

func TestExampleWrong(t *testing.T) { // example 5
	feeds(t, begun(t, 1), []byte{0x01, 0x02, 0x00, 0xFD, 0xFF}, "", api.ErrInfLimit, false, 3)
	feeds(t, begun(t, 0), []byte{0x07}, "", api.ErrInfKind, false, 0)
}

func TestExamplePipe(t *testing.T) { // example 6
	pipes(t, 9, "aaaa", api.OK, []byte{0x4B, 0x04}, nil, []byte{0x02, 0x00})
	pipes(t, 9, "", api.ErrInfEnd)
	pipes(t, 9, "", api.ErrInfEnd, []byte{0x4B, 0x04, 0x02})
	pipes(t, 9, "", api.ErrOver, []byte{0x03, 0x00}, []byte{0x00})
	pipes(t, -1, "", api.ErrArg)
}
