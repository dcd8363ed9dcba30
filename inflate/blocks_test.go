package inflate_test

import (
	"bytes"
	"errors"
	"iter"
	"runtime"
	"slices"
	"sync"
	"testing"

	"valise/api"
	"valise/inflate"
)

// row3 is three blocks, one of each kind, and what they are.
func row3() ([]byte, []api.Piece, []string) {
	text := stored("", false, "hi")
	text += fixed(false, literals("a"), again(4, 3))
	from := len(text)
	text += dynamic(true, lits(97, 1, 256, 1), nil, "0", "0", "1")
	return bytesOf(text), []api.Piece{
		{Kind: api.KindStored, From: 0, To: 56, Start: 0, End: 2},
		{Kind: api.KindFixed, From: 56, To: from, Start: 2, End: 7},
		{Kind: api.KindDynamic, Final: true, From: from, To: len(text), Start: 7, End: 9},
	}, []string{"hi", "ahiah", "aa"}
}

// gives asks a loop for these blocks.
func gives(t *testing.T, blocks iter.Seq2[api.Piece, []byte], pieces []api.Piece, parts []string) {
	t.Helper()
	n := 0
	for p, part := range blocks {
		if n == len(pieces) || p != pieces[n] || string(part) != parts[n] {
			t.Errorf("the block %d is %v, %q", n, p, part)
		}
		n++
	}
	if n != len(pieces) {
		t.Errorf("%d blocks, want %d", n, len(pieces))
	}
}

func TestWalk(t *testing.T) { // P8.3
	data, want, _ := row3()
	pieces, e := inflate.Walk(data, 9)
	if e != api.OK || !slices.Equal(pieces, want) {
		t.Errorf("Walk = %v, %d, want %v", pieces, e, want)
	}
	for n := range len(data) {
		pieces, e := inflate.Walk(data[:n], 9)
		if pieces != nil || e == api.OK {
			t.Errorf("of %d bytes: %v, %d", n, pieces, e)
		}
	}
}

func TestBlocksGiven(t *testing.T) { // P8.4
	data, pieces, parts := row3()
	gives(t, inflate.Blocks(data, 9), pieces, parts)
	gives(t, inflate.Blocks(append(data, 7, 7), api.MaxCapacity), pieces, parts)
}

func TestBlocksUpToTheBroken(t *testing.T) { // P8.4, P8.5: a block that can't be read to its end is not given, and nothing behind it
	data, pieces, parts := row3()
	for limit := range 9 {
		n := 0
		for n < 2 && limit >= pieces[n].End {
			n++
		}
		gives(t, inflate.Blocks(data, limit), pieces[:n], parts[:n])
	}
	for size := range len(data) {
		n := 0
		for n < 2 && 8*size >= pieces[n].To {
			n++
		}
		gives(t, inflate.Blocks(data[:size], 9), pieces[:n], parts[:n])
	}
	broken := bytesOf(fixed(false, literals("a")) + "011" + fixed(true))
	gives(t, inflate.Blocks(broken, 9), []api.Piece{{Kind: 1, To: 18, End: 1}}, []string{"a"})
	gives(t, inflate.Blocks([]byte{7}, 9), nil, nil)
}

func TestBlocksStopEarly(t *testing.T) { // P8.4
	data, pieces, parts := row3()
	blocks := inflate.Blocks(data, 9)
	for stop := 1; stop <= 3; stop++ {
		n := 0
		for p, part := range blocks {
			if p != pieces[n] || string(part) != parts[n] {
				t.Errorf("the block %d is %v, %q", n, p, part)
			}
			if n++; n == stop {
				break
			}
		}
		if n != stop {
			t.Errorf("%d blocks, want %d", n, stop)
		}
	}
	gives(t, blocks, pieces, parts)
}

func TestLoopsWithinLoops(t *testing.T) { // P8.4: each loop begins with the first block
	data, pieces, parts := row3()
	blocks := inflate.Blocks(data, 9)
	n := 0
	for p := range blocks {
		gives(t, blocks, pieces, parts)
		if p != pieces[n] {
			t.Errorf("the block %d is %v", n, p)
		}
		n++
	}
	if n != 3 {
		t.Errorf("%d blocks", n)
	}
	next, stop := iter.Pull2(blocks)
	defer stop()
	other, halt := iter.Pull2(blocks)
	defer halt()
	for i := range 3 {
		p, part, ok := next()
		q, more, also := other()
		if !ok || !also || p != pieces[i] || q != p || string(part) != parts[i] || string(more) != parts[i] {
			t.Errorf("the block %d is %v, %q and %v, %q", i, p, part, q, more)
		}
	}
}

func TestBlocksKeepTheirText(t *testing.T) { // P8.4: what becomes of data behind the call, also while a loop goes on
	data, pieces, parts := row3()
	kept := bytes.Clone(data)
	blocks := inflate.Blocks(data, 9)
	spoil(data)
	gives(t, blocks, pieces, parts)
	copy(data, kept)
	n := 0
	for p := range inflate.Blocks(data, 9) {
		clear(data)
		if p != pieces[n] {
			t.Errorf("the block %d is %v", n, p)
		}
		n++
	}
	if n != 3 {
		t.Errorf("%d blocks", n)
	}
}

func TestGivenBytesAreNew(t *testing.T) { // P8.4, P0.3: the second block copies from the first, whatever the body does with that
	data, pieces, parts := row3()
	kept := bytes.Clone(data)
	blocks := inflate.Blocks(data, 9)
	var all [][]byte
	for _, part := range blocks {
		all = append(all, bytes.Clone(part))
		spoil(part)
	}
	for i, part := range all {
		if string(part) != parts[i] {
			t.Errorf("the block %d is %q", i, part)
		}
	}
	gives(t, blocks, pieces, parts)
	var held [][]byte
	for _, part := range blocks { // what has been given stays valid
		held = append(held, part)
	}
	for i, part := range held {
		if string(part) != parts[i] {
			t.Errorf("the block %d has become %q", i, part)
		}
		spoil(part)
	}
	if !bytes.Equal(data, kept) {
		t.Error("a block's bytes share memory with the argument")
	}
}

// panicOf is what a function panics with.
func panicOf(run func()) (v any) {
	defer func() { v = recover() }()
	run()
	return nil
}

func TestPanicsOfTheBody(t *testing.T) { // chapter 8, 'Ways': they go on through the layer
	data, pieces, parts := row3()
	blocks := inflate.Blocks(data, 9)
	own := errors.New("own")
	for _, v := range []any{own, "text", 7, api.ErrInfEnd, &api.Piece{}} {
		n := 0
		got := panicOf(func() {
			for range blocks {
				if n++; n == 2 {
					panic(v)
				}
			}
		})
		if got != v || n != 2 {
			t.Errorf("the panic of %v is %v, at %d", v, got, n)
		}
		gives(t, blocks, pieces, parts)
	}
	n := 0
	var group sync.WaitGroup
	group.Go(func() {
		for range blocks {
			n++
			runtime.Goexit()
		}
	})
	group.Wait()
	if n != 1 {
		t.Errorf("a body that ends its goroutine was run %d times", n)
	}
}

func TestPlainCalls(t *testing.T) { // P0.1, P0.6: an iterator is never nil
	data, _, _ := row3()
	for _, blocks := range []iter.Seq2[api.Piece, []byte]{inflate.Blocks(data, 9), inflate.Blocks(nil, 9), inflate.Blocks(data, -1), inflate.Blocks(make([]byte, api.MaxPacked+1), 9)} {
		if blocks == nil {
			t.Fatal("an iterator is nil")
		}
		blocks(nil)
	}
}
