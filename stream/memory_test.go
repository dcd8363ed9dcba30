package stream_test

import (
	"bytes"
	"testing"

	"valise/api"
	"valise/stream"
)

// spoil writes over a list and over the room behind its end.
func spoil(list []byte) {
	list = list[:cap(list)]
	for i := range list {
		list[i] = 'q'
	}
}

// roomy is a list with room behind its end.
func roomy(data []byte) []byte {
	return append(bytes.Clone(data), "the room behind"...)[:len(data)]
}

func TestMemoryOfPieces(t *testing.T) { // P0.3: a piece is neither changed nor kept
	s := drawnBlocks(192)
	data := s.bytes()
	for _, n := range []int{1, 2, 3, 7, 50, len(data)} {
		f := begun(t, len(s.plain))
		var told []byte
		for at := 0; at < len(data); at += n {
			part := data[at:min(at+n, len(data))]
			piece := roomy(part)
			out, e := f.Feed(piece)
			if whole := piece[:cap(piece)]; e != api.OK || !bytes.Equal(piece, part) || !bytes.HasPrefix(whole[len(piece):], []byte("the room behind")) {
				t.Errorf("Feed has changed its piece: %q, %d", some(whole), e)
			}
			spoil(piece)
			told = append(told, out...)
		}
		if !bytes.Equal(told, s.plain) || f.Finish() != api.OK {
			t.Errorf("pieces of %d bytes that are written over: %q", n, some(told))
		}
	}
}

func TestMemoryOfAnswers(t *testing.T) { // P0.3: copies don't see what has become of an answer
	s := drawnBlocks(193)
	data := s.bytes()
	for _, n := range []int{1, 2, 3, 7, 50} {
		f := begun(t, len(s.plain))
		var told []byte
		var last, was []byte
		for at := 0; at < len(data); at += n {
			out, _ := f.Feed(data[at:min(at+n, len(data))])
			if !bytes.Equal(last, was) {
				t.Errorf("an answer has changed with the next one")
			}
			told = append(told, out...)
			spoil(out)
			last, was = out, bytes.Clone(out)
		}
		if !bytes.Equal(told, s.plain) || f.Finish() != api.OK {
			t.Errorf("answers of pieces of %d bytes that are written over: %q", n, some(told))
		}
	}
}

func TestMemoryOfPipe(t *testing.T) { // P0.3
	data := []byte{1, 2, 0, 0xFD, 0xFF, 'h', 'i'}
	for _, pieces := range [][][]byte{{roomy(data)}, {roomy(data[:5]), roomy(data[5:])}, {roomy(data[:5]), roomy(data[5:6]), roomy(data[6:])}} {
		out, _ := stream.Pipe(2, pieces...)
		again, _ := stream.Pipe(2, pieces...)
		spoil(out)
		joined := bytes.Join(pieces, nil)
		for _, piece := range pieces {
			spoil(piece)
		}
		if string(again) != "hi" || !bytes.Equal(joined, data) {
			t.Errorf("Pipe shares memory: %q, % x", again, joined)
		}
	}
}
