package stream

import (
	"sync"

	"valise/api"
)

// Pipe unpacks pieces: one goroutine hands them on through a channel, another one unpacks them.
func Pipe(limit int, pieces ...[]byte) ([]byte, api.Errno) {
	f, e := NewInflater(limit)
	if e != api.OK {
		return nil, e
	}
	handed, more := make(chan []byte), make(chan bool)
	var plain []byte
	var both sync.WaitGroup
	both.Go(func() { hand(pieces, handed, more) })
	both.Go(func() { plain, e = f.drink(handed, more) })
	both.Wait()
	if e == api.OK {
		e = f.Finish()
	}
	if e != api.OK {
		return nil, e
	}
	return plain, api.OK
}

// hand hands the pieces on, one by one, as long as it is told that more are wanted.
func hand(pieces [][]byte, to chan<- []byte, more <-chan bool) {
	defer close(to)
	for _, piece := range pieces {
		to <- piece
		if !<-more {
			return
		}
	}
}

// drink feeds what is handed on, and tells behind each piece whether it wants more: none behind an error. It ends when nothing more can come, so that the other one has ended its sending too.
func (f *Inflater) drink(from <-chan []byte, more chan<- bool) (plain []byte, e api.Errno) {
	for piece := range from {
		var part []byte
		part, e = f.Feed(piece)
		plain = append(plain, part...)
		more <- e == api.OK
	}
	return plain, e
}
