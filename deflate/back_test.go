package deflate_test

import (
	"bytes"
	"compress/flate"
	"io"
	"math/rand"
	"runtime"
	"strings"
	"testing"

	"valise/api"
	"valise/deflate"
	"valise/inflate"
)

// comesBack asks all that is promised of a packed text.
func comesBack(t *testing.T, text string, level int) {
	t.Helper()
	got := packed(t, text, level)
	if most, _ := deflate.Bound(len(text)); len(got) > most {
		t.Errorf("%d bytes, level %d: %d bytes, and the bound is %d", len(text), level, len(got), most)
	}
	for _, limit := range []int{len(text), min(len(text)+1, api.MaxCapacity), api.MaxCapacity} {
		plain, used, e := inflate.Inflate(got, limit)
		if string(plain) != text || (used+7)/8 != len(got) || e != api.OK {
			t.Fatalf("%d bytes, level %d, within %d: %d bytes, %d bits of %d bytes, %d", len(text), level, limit, len(plain), used, len(got), e)
		}
	}
	if plain, e := inflate.Exact(got, len(text)); string(plain) != text || e != api.OK {
		t.Errorf("%d bytes, level %d: Exact: %d bytes, %d", len(text), level, len(plain), e)
	}
	plain, err := io.ReadAll(flate.NewReader(bytes.NewReader(got)))
	if string(plain) != text || err != nil {
		t.Errorf("%d bytes, level %d: the library unpacks %d bytes, %v", len(text), level, len(plain), err)
	}
}

func TestItComesBack(t *testing.T) { // P11.7
	for _, text := range texts() {
		for level := range 10 {
			comesBack(t, text, level)
		}
	}
}

func TestDrawnComesBack(t *testing.T) { // P11.7
	r := rand.New(rand.NewSource(113))
	for i := range 60 {
		text := drawnText(r, r.Intn([]int{30, 1000, 9000}[i%3]))
		for level := range 10 {
			comesBack(t, text, level)
		}
	}
}

func TestEachShortText(t *testing.T) { // P11.7: all texts of two letters up to eight bytes, and each byte alone
	for n := range 9 {
		for v := range 1 << n {
			text := make([]byte, n)
			for i := range text {
				text[i] = "ab"[v>>i&1]
			}
			for _, level := range []int{0, 1, 4, 9} {
				comesBack(t, string(text), level)
			}
		}
	}
	for b := range 256 {
		comesBack(t, string([]byte{byte(b)}), 6)
	}
}

func TestMostBytes(t *testing.T) { // P11.7: as many bytes as may be
	comesBack(t, noise(7, api.MaxCapacity), 0)
	comesBack(t, strings.Repeat("0123456789abcdef", api.MaxCapacity/16), 1)
}

func TestManyBlocks(t *testing.T) { // P11.5, P11.6: a text that changes again and again, and no goroutine is left when the call answers
	before := runtime.NumGoroutine()
	text := changing(1 << 17)
	comesBack(t, text, 1)
	pieces, e := deflate.Pieces([]byte(text), 1)
	if e != api.OK || len(pieces) != 1024 {
		t.Errorf("Pieces = %d blocks, %d", len(pieces), e)
	}
	for i, p := range pieces {
		if p.Final != (i == len(pieces)-1) || p.End-p.Start > api.MaxRaw {
			t.Errorf("the block %d of %d is %v", i, len(pieces), p)
		}
	}
	if after := runtime.NumGoroutine(); after > before {
		t.Errorf("%d goroutines ahead, %d behind", before, after)
	}
}
