package stream

import (
	"math/rand"
	"testing"

	"valise/api"
	"valise/deflate"
	"valise/items"
)

// TestKeptBytes: an inflater keeps no more of a long text than copies can reach, but for as much again, and of the packed text an item that isn't whole.
func TestKeptBytes(t *testing.T) {
	r := rand.New(rand.NewSource(198))
	plain := make([]byte, 1<<20)
	for i := range plain {
		plain[i] = byte('a' + r.Intn(1+r.Intn(26)))
	}
	packed, _ := deflate.Deflate(plain, 3)
	for _, n := range []int{100, 5000, len(packed) / 2} {
		f, _ := NewInflater(len(plain))
		for at := 0; at < len(packed); at += n {
			f.Feed(packed[at:min(at+n, len(packed))])
			if cap(f.near) > 4*api.Window || cap(f.rest) > 4096 {
				t.Fatalf("pieces of %d bytes: behind %d of them %d and %d bytes are kept", n, at, cap(f.near), cap(f.rest))
			}
		}
		if !f.done || f.near != nil || f.rest != nil || f.text != (items.Text{}) {
			t.Errorf("pieces of %d bytes: behind the last one %d and %d bytes are kept", n, cap(f.near), cap(f.rest))
		}
	}
}
