package seek

import (
	"bytes"
	"math/rand"
	"testing"

	"valise/api"
	"valise/deflate"
)

// longText is more than three windows of bytes, of which no two parts are alike, and the same packed into many blocks.
func longText(t *testing.T) (plain, packed []byte) {
	t.Helper()
	r := rand.New(rand.NewSource(240))
	plain = make([]byte, 120000)
	for i := range plain {
		plain[i] = byte(r.Intn(1 + r.Intn(256)))
	}
	packed, e := deflate.Deflate(plain, 2)
	if e != api.OK {
		t.Fatal(e)
	}
	return plain, packed
}

func TestKeptWindows(t *testing.T) { // P22.4: with each mark the last 32768 bytes ahead of it, or all of them
	plain, packed := longText(t)
	for _, step := range []int{1, 10000, 32768, 33000, 65536, 100000} {
		x, e := Build(packed, len(plain), step)
		if e != api.OK || step == 1 && len(x.marks) < 5 {
			t.Fatalf("step %d: %d, %d marks", step, e, len(x.marks))
		}
		sum := 0
		for _, m := range x.marks {
			want := plain[max(0, m.At-32768):m.At]
			window := x.window(m)
			if !bytes.Equal(window, want) || cap(window) != len(window) {
				t.Errorf("step %d: the window of %v has %d bytes and room for %d, want %d", step, m, len(window), cap(window), len(want))
			}
			sum += len(want)
		}
		if len(x.kept) > sum || len(x.kept) > len(plain) {
			t.Errorf("step %d: %d bytes are kept for windows of %d", step, len(x.kept), sum)
		}
	}
}

func TestKeptNoMore(t *testing.T) { // P22.4: without a mark behind the first one no plain byte is kept
	plain, packed := longText(t)
	x, e := Build(packed, len(plain), len(plain)+1)
	if e != api.OK || len(x.marks) != 1 || x.kept != nil || x.size != len(plain) {
		t.Errorf("%d marks, %d bytes kept of %d, %d", len(x.marks), len(x.kept), x.size, e)
	}
}

func TestRangeGrowsApart(t *testing.T) { // P22.7: what grows behind a window writes over none that stand behind it in the index
	plain, packed := longText(t)
	x, e := Build(packed, len(plain), 1)
	if e != api.OK {
		t.Fatal(e)
	}
	was := bytes.Clone(x.kept[:cap(x.kept)])
	for _, m := range x.marks {
		zeros := append(make([]byte, m.Bit/8), bytes.Repeat([]byte{0, 0, 0, 0xFF, 0xFF}, 3)...) // some bytes that are not those
		x.Range(packed, m.At, min(m.At+9, len(plain)))
		x.Range(zeros, m.At, min(m.At+9, len(plain)))
	}
	if !bytes.Equal(x.kept[:cap(x.kept)], was) {
		t.Errorf("a Range has changed the index")
	}
}
