package wrap_test

import (
	"bytes"
	"sync"
	"testing"

	"valise/api"
	"valise/wrap"
)

// spoil writes over a list and over the room behind its end.
func spoil(list []byte) {
	list = list[:cap(list)]
	for i := range list {
		list[i] = 'q'
	}
}

// roomy is a list with room behind its end.
func roomy(data string) []byte { return []byte(data + "the room behind")[:len(data)] }

// kept asks that a list that was made by roomy is as it was.
func kept(t *testing.T, list []byte, was string) {
	t.Helper()
	if whole := list[:len(was)+15]; string(list) != was || string(whole) != was+"the room behind" {
		t.Errorf("a list that was handed in has changed: %q", some(whole))
	}
}

func TestNilIsEmpty(t *testing.T) { // P0.2
	for _, none := range [][]byte{nil, {}, []byte("abc")[:0]} {
		sums(t, string(none), 1)
		for level, head := range zlibHeads() {
			out, e := wrap.PutZlib(none, level)
			if string(out) != zlibbed(head, packed("", level), "") || e != api.OK {
				t.Errorf("PutZlib of nothing = % x, %d", out, e)
			}
			putGzip(t, gzipped(plainHead, packed("", level), ""), level, api.Member{Data: none})
		}
		if out, e := wrap.GetZlib(none, 0); out != nil || e != api.ErrWrapShort {
			t.Errorf("GetZlib of nothing = %v, %d", out, e)
		}
		if got, e := wrap.GetGzip(none, 0); len(got) != 0 || e != api.OK {
			t.Errorf("GetGzip of nothing = %v, %d", got, e)
		}
	}
	putGzip(t, "", 6, nil...)
	putGzip(t, "", 6, []api.Member{}...)
}

func TestMemoryOfZlib(t *testing.T) { // P0.3
	plain := filler(320, 300)
	for level, head := range zlibHeads() {
		want := zlibbed(head, packed(plain, level), plain)
		data := roomy(plain)
		first, _ := wrap.PutZlib(data, level)
		second, _ := wrap.PutZlib(data, level)
		kept(t, data, plain)
		spoil(data)
		spoil(second)
		if string(first) != want {
			t.Errorf("what PutZlib answered has changed")
		}
		data = roomy(want)
		first, _ = wrap.GetZlib(data, len(plain))
		second, _ = wrap.GetZlib(data, len(plain))
		kept(t, data, want)
		spoil(data)
		spoil(second)
		if string(first) != plain {
			t.Errorf("what GetZlib answered has changed")
		}
	}
}

func TestMemoryOfPutGzip(t *testing.T) { // P0.3
	plain := filler(321, 300)
	for level := range 10 {
		data := roomy(plain)
		members := append([]api.Member{full("x"), {Data: data}, {Data: data}}, api.Member{Name: "behind"})[:3]
		want := gzipped(fullHead(), packed("x", level), "x") + gzipped(plainHead, packed(plain, level), plain) + gzipped(plainHead, packed(plain, level), plain)
		first, _ := wrap.PutGzip(level, members...)
		second, _ := wrap.PutGzip(level, members...)
		kept(t, data, plain)
		if !alike(members[:4], []api.Member{full("x"), {Data: data}, {Data: data}, {Name: "behind"}}) {
			t.Errorf("the members that were handed in have changed")
		}
		spoil(data)
		clear(members)
		spoil(second)
		if string(first) != want {
			t.Errorf("what PutGzip answered has changed")
		}
	}
}

func TestMemoryOfGetGzip(t *testing.T) { // P0.3: nor do two members share any
	m := full(filler(322, 300))
	n := api.Member{Data: []byte("a")}
	whole, _ := wrap.PutGzip(0, m, n, n, m)
	want := []api.Member{m, n, n, m}
	for spoilt := range want {
		data := roomy(string(whole))
		first, _ := wrap.GetGzip(data, 1000)
		second, _ := wrap.GetGzip(data, 1000)
		kept(t, data, string(whole))
		spoil(data)
		spoil(first[spoilt].Data)
		first[spoilt] = want[spoilt]
		if !alike(first, want) {
			t.Errorf("the members share memory with the member %d", spoilt)
		}
		clear(first[:cap(first)])
		if !alike(second, want) {
			t.Errorf("two answers share memory")
		}
	}
}

func TestRoomBehind(t *testing.T) { // P0.3: what stands in the room behind a list's end is not looked at
	z, g := zlibbed("\x78\x9c", "\x4b\x04\x00", "a"), gzipped(fullHead(), "\x4b\x04\x00", "a")
	for n := range len(z) {
		data := []byte(z)
		cut, e := wrap.GetZlib(data[:n], 9)
		same, f := wrap.GetZlib(bytes.Clone(data[:n]), 9)
		if !bytes.Equal(cut, same) || e != f {
			t.Errorf("GetZlib of %d bytes: %d, %d", n, e, f)
		}
	}
	for n := range len(g) {
		data := []byte(g)
		cut, e := wrap.GetGzip(data[:n], 9)
		same, f := wrap.GetGzip(bytes.Clone(data[:n]), 9)
		if !alike(cut, same) || e != f {
			t.Errorf("GetGzip of %d bytes: %d, %d", n, e, f)
		}
	}
}

func TestSideBySide(t *testing.T) { // P0.7
	plain := filler(323, 3000)
	m := full(plain)
	data := []byte(plain)
	var workers sync.WaitGroup
	for range 8 {
		workers.Go(func() {
			for level, head := range zlibHeads() {
				z := zlibbed(head, packed(plain, level), plain)
				putZlib(t, plain, level, z)
				getZlib(t, z, len(plain), plain)
				one := gzipped(fullHead(), packed(plain, level), plain)
				putGzip(t, one+one, level, m, m) // with the others' list
				getGzip(t, one+one, 2*len(plain), m, m)
				sums(t, string(data), plainAdler(plain))
			}
		})
	}
	workers.Wait()
}
