package seek_test

import (
	"bytes"
	"compress/flate"
	"math/rand"
	"runtime"
	"strings"
	"testing"

	"valise/api"
	"valise/deflate"
)

func TestFar(t *testing.T) { // P22.5: a copy reaches as far back as the window, and the plain text behind it, go
	for _, n := range []int{1, 2, 3, 1000, api.Window - 2, api.Window - 1, api.Window, api.Window + 1, 50000, 65535} {
		s := &speller{}
		s.stored(false, anyBytes(242, n), "00000000")
		w := s.fixed(true)
		s.literals(w, "abc")
		s.end(w)
		x := built(t, s.bytes(), n+3, 1)
		marked(t, x, s.blocks...)
		for _, d := range []int{1, n - 1, n, n + 1, n + 2, n + 3, api.Window - 2, api.Window - 1, api.Window} {
			if d < 1 || d > api.Window {
				continue
			}
			for ahead := range 3 { // literals ahead of the copy
				p := &speller{plain: bytes.Clone(s.plain[:n])}
				p.literals(p.fixed(true), "xyz"[:ahead])
				data := bytesOf(string(s.bits[:s.blocks[1].Bit]) + string(p.bits) + w.copied(3, d))
				if d > n+ahead {
					fails(t, x, data, n, n+ahead+1, api.ErrInfFar)
				} else {
					tells(t, x, data, n, n+ahead+1, "xyz"[:ahead]+string(p.repeated(1, d)))
				}
				if ahead > 0 {
					tells(t, x, data, n, n+ahead, "xyz"[:ahead])
				}
			}
		}
	}
}

func TestTextsOfOthers(t *testing.T) { // P22.2, P22.6: what this program packs, and what another one does
	r := rand.New(rand.NewSource(243))
	sentence := strings.Repeat("a text that is packed and read in parts, ", 3000)
	for _, plain := range []string{"a", sentence, anyBytes(7, 70000), strings.Repeat("\x00", 300000), sentence + anyBytes(8, 40000) + sentence} {
		for level := range api.MaxLevel + 1 {
			var another bytes.Buffer
			w, _ := flate.NewWriter(&another, level)
			w.Write([]byte(plain[:len(plain)/2]))
			w.Flush()
			w.Write([]byte(plain[len(plain)/2:]))
			w.Close()
			own, _ := deflate.Deflate([]byte(plain), level)
			for _, packed := range [][]byte{another.Bytes(), own} {
				for _, step := range []int{1, 10000, api.Window, 100000} {
					x := built(t, packed, len(plain), step)
					for _, m := range append(x.Marks(), api.Mark{At: r.Intn(len(plain))}) {
						to := min(m.At+1+r.Intn(2000), len(plain))
						tells(t, x, packed, m.At, to, plain[m.At:to])
						tells(t, x, packed, max(0, m.At-10), m.At, plain[max(0, m.At-10):m.At])
					}
					tells(t, x, packed, 0, len(plain), plain)
				}
			}
		}
	}
}

func TestGreatest(t *testing.T) { // P22.1, P22.5: as many bytes as there may be, and one more
	plain := make([]byte, api.MaxCapacity+1)
	for i := range plain {
		plain[i] = byte(i >> 10 * 7)
	}
	packed, _ := deflate.Deflate(plain[:api.MaxCapacity], 1)
	x := built(t, packed, api.MaxCapacity, 100000)
	if x.Size() != api.MaxCapacity {
		t.Errorf("Size = %d", x.Size())
	}
	tells(t, x, packed, 0, api.MaxCapacity, string(plain[:api.MaxCapacity]))
	tells(t, x, packed, api.MaxCapacity-1, api.MaxCapacity, string(plain[api.MaxCapacity-1:api.MaxCapacity]))
	fails(t, x, packed, api.MaxCapacity, api.MaxCapacity+1, api.ErrSeekRange)
	refuses(t, packed, api.MaxCapacity-1, 1, api.ErrInfLimit)
	var more bytes.Buffer
	w, _ := flate.NewWriter(&more, 1)
	w.Write(plain)
	w.Close()
	refuses(t, more.Bytes(), api.MaxCapacity, 1, api.ErrInfLimit)
}

func TestManyBlocks(t *testing.T) { // P22.2, P22.5, P0.1: as many blocks as a packed text may hold, most of them without bytes
	empty := bytes.Repeat([]byte{0, 0, 0, 0xFF, 0xFF}, api.MaxPacked/5)
	packed := append(empty[:len(empty)-20:len(empty)-20], 1, 1, 0, 0xFE, 0xFF, 'a')
	x := built(t, packed, 1, 1)
	marked(t, x, api.Mark{})
	tells(t, x, packed, 0, 1, "a")
	fails(t, x, empty, 0, 1, api.ErrInfEnd)
	refuses(t, empty, 1, 1, api.ErrInfEnd)
}

func TestManyMarks(t *testing.T) { // P22.2, P22.4: windows of marks that stand close to one another are held but once
	const n = 300000
	s := &speller{}
	w := s.fixed(false)
	s.literals(w, "a")
	s.end(w)
	data := bytesOf(strings.Repeat(string(s.bits), n) + row(3, 10)) // 18 bits each
	var before, behind runtime.MemStats
	runtime.GC()
	runtime.ReadMemStats(&before)
	x := built(t, data, n, 1)
	runtime.GC()
	runtime.ReadMemStats(&behind)
	marks := x.Marks()
	for i, m := range marks {
		if m.Bit != 18*i || m.At != i {
			t.Fatalf("the mark %d is %v", i, m)
		}
	}
	if len(marks) != n+1 || behind.HeapAlloc > before.HeapAlloc+100*n {
		t.Errorf("%d marks, and %d bytes more than there were", len(marks), behind.HeapAlloc-before.HeapAlloc)
	}
	tells(t, x, data, n-1, n, "a")
	tells(t, x, data, 100, 200, strings.Repeat("a", 100))
}

func TestRangeTakesItsPart(t *testing.T) { // P22.6: a range costs what it reads, however long the text is
	plain := []byte(anyBytes(244, api.MaxCapacity))
	packed, _ := deflate.Deflate(plain, 0)
	x := built(t, packed, len(plain), 1)
	for _, m := range x.Marks() {
		if to := m.At + 100; to <= len(plain) {
			tells(t, x, packed, m.At, to, string(plain[m.At:to]))
		}
	}
	var before, behind runtime.MemStats
	runtime.ReadMemStats(&before)
	x.Range(packed, len(plain)/2, len(plain)/2+100)
	runtime.ReadMemStats(&behind)
	if used := behind.TotalAlloc - before.TotalAlloc; used > 1<<20 {
		t.Errorf("a range of 100 bytes takes %d", used)
	}
}
