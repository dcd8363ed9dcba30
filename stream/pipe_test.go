package stream_test

import (
	"math/rand"
	"runtime"
	"sync"
	"testing"
	"time"

	"valise/api"
	"valise/stream"
)

func TestPipe(t *testing.T) { // P18.7
	s := drawnBlocks(189)
	data, plain, size := s.bytes(), string(s.plain), len(s.plain)
	r := rand.New(rand.NewSource(189))
	for range 200 {
		pieces := cut(r, data, 1+r.Intn(60))
		pipes(t, size, plain, api.OK, pieces...)
		pipes(t, api.MaxCapacity, plain, api.OK, append(pieces, nil, nil)...)
		pipes(t, size-1, "", api.ErrInfLimit, pieces...)
		pipes(t, size, "", api.ErrOver, append(pieces, []byte{0})...)
		pipes(t, size, "", api.ErrInfEnd, pieces[:len(pieces)-1]...)
		pipes(t, size, "", api.ErrInfKind, append([][]byte{nil, {6}}, pieces...)...)
	}
	pipes(t, 0, "", api.OK, nil, []byte{3}, nil, []byte{0}, nil)
	pipes(t, 0, "", api.ErrInfEnd, nil, nil)
	pipes(t, api.MaxCapacity+1, "", api.ErrArg, []byte{3, 0})
	pipes(t, -1, "", api.ErrArg, []byte{7})
}

func TestPipeFirstError(t *testing.T) { // P18.7: of the errors that the pieces would bring, the one that comes first
	long := make([]byte, api.MaxPacked)
	pipes(t, 9, "", api.ErrInfKind, []byte{7}, long)
	pipes(t, 9, "", api.ErrInfKind, []byte{7}, append(long, 0))
	pipes(t, 9, "", api.ErrArg, append(long, 0), []byte{7})
	pipes(t, 9, "", api.ErrArg, nil, []byte{3}, long, []byte{0})
	pipes(t, 9, "", api.ErrOver, []byte{3, 0}, []byte{7}, append(long, 0))
	pipes(t, -1, "", api.ErrArg, append(long, 0))
}

// settles asks that no more goroutines run than that. One that has said that it is done may need a moment to be gone.
func settles(t *testing.T, most int) {
	t.Helper()
	for range 500 {
		if runtime.NumGoroutine() <= most {
			return
		}
		time.Sleep(time.Millisecond)
	}
	t.Errorf("%d goroutines, ahead of Pipe %d", runtime.NumGoroutine(), most)
}

func TestPipeEnds(t *testing.T) { // chapter 18, 'Ways': both goroutines have ended, also where an error stops them early
	ahead := runtime.NumGoroutine()
	data := single(drawnBlocks(190).bytes())
	for range 100 {
		for _, limit := range []int{-1, 0, 1, 40, api.MaxCapacity} {
			stream.Pipe(limit, data...)
			stream.Pipe(limit, data[:len(data)/2]...)
			stream.Pipe(limit, append([][]byte{{6}}, data...)...)
			stream.Pipe(limit)
		}
	}
	settles(t, ahead)
}

func TestPipeSideBySide(t *testing.T) { // P0.7
	s := drawnBlocks(191)
	pieces := single(s.bytes())
	var all sync.WaitGroup
	for i := range 16 {
		all.Go(func() {
			limit, want, wantE := len(s.plain), string(s.plain), api.OK
			if i%2 == 1 {
				limit, want, wantE = 50, "", api.ErrInfLimit
			}
			for range 20 {
				pipes(t, limit, want, wantE, pieces...)
			}
		})
	}
	all.Wait()
}
