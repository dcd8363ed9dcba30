package wrap_test

import (
	"bytes"
	"compress/flate"
	"strings"
	"testing"

	"valise/api"
	"valise/wrap"
)

func TestBigMany(t *testing.T) { // P23.6, P0.1: as many members as there is room for
	one := gzipped(plainHead, raw("", true), "")
	n := api.MaxPacked / len(one)
	got, e := wrap.GetGzip([]byte(strings.Repeat(one, n)), 0)
	if len(got) != n || e != api.OK {
		t.Fatalf("%d members, %d, want %d", len(got), e, n)
	}
	for i, m := range got {
		if m.Data = nil; !alike([]api.Member{m}, []api.Member{{}}) {
			t.Fatalf("the member %d is %v", i, m)
		}
	}
}

func TestBigHeads(t *testing.T) { // P23.6, P0.1: names that go on and on
	head := "\x1f\x8b\x08\x18\x00\x00\x00\x00\x00\x00"
	noGzip(t, head+strings.Repeat("n", api.MaxPacked-10), 9, api.ErrWrapShort)
	noGzip(t, head+"\x00"+strings.Repeat("n", api.MaxPacked-11), 9, api.ErrWrapShort)
	name := strings.Repeat("n", api.MaxPacked-10-2-len("\x4b\x04\x00")-8)
	getGzip(t, gzipped(head+name+"\x00\x00", "\x4b\x04\x00", "a"), 9, api.Member{Name: name, Data: []byte("a")})
}

func TestBigTexts(t *testing.T) { // P23.7: the longest plain text, and the longest packed one
	plain := bytes.Repeat([]byte("some text, "), api.MaxCapacity/11+1)[:api.MaxCapacity]
	for _, level := range []int{0, 1} {
		z, e := wrap.PutZlib(plain, level)
		if e != api.OK {
			t.Fatal(e)
		}
		getZlib(t, string(z), api.MaxCapacity, string(plain))
		noZlib(t, string(z), api.MaxCapacity-1, api.ErrInfLimit)
		g, e := wrap.PutGzip(level, api.Member{Data: plain})
		if e != api.OK {
			t.Fatal(e)
		}
		getGzip(t, string(g), api.MaxCapacity, api.Member{Data: plain})
		noGzip(t, string(g), api.MaxCapacity-1, api.ErrInfLimit)
		noGzip(t, string(g)+ofA(), api.MaxCapacity, api.ErrInfLimit)
	}
	empty := strings.Repeat("\x00\x00\x00\xff\xff", (api.MaxPacked-30)/5) + "\x4b\x04\x00"
	getZlib(t, zlibbed("\x78\x9c", empty, "a"), 1, "a")
	getGzip(t, gzipped(plainHead, empty, "a"), 1, api.Member{Data: []byte("a")})
	noGzip(t, plainHead+empty[:len(empty)-3], 1, api.ErrInfEnd)
}

func TestBigBroken(t *testing.T) { // P0.1: what begins with nearly the longest plain text, and then goes on and breaks
	var b bytes.Buffer
	w, _ := flate.NewWriter(&b, 9)
	w.Write(make([]byte, api.MaxCapacity-1))
	w.Flush() // no block is the last one
	more := strings.Repeat("\x00\x00\x00\xff\xff", 2000000)
	noGzip(t, plainHead+b.String()+more, api.MaxCapacity, api.ErrInfEnd)
	noGzip(t, plainHead+b.String()+more+"\x07", api.MaxCapacity, api.ErrInfKind)
	noGzip(t, plainHead+b.String()+more+raw("ab", true), api.MaxCapacity, api.ErrInfLimit)
}
