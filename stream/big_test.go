package stream_test

import (
	"bytes"
	"compress/flate"
	"math/rand"
	"strings"
	"testing"

	"valise/api"
	"valise/deflate"
)

// tells feeds the pieces and asks for the text that they say together.
func tells(t *testing.T, limit int, pieces [][]byte, want string) {
	t.Helper()
	f := begun(t, limit)
	told := make([]byte, 0, len(want))
	for _, piece := range pieces {
		out, e := f.Feed(piece)
		if e != api.OK {
			t.Errorf("behind %d bytes: %d", len(told), e)
		}
		told = append(told, out...)
	}
	if string(told) != want || !f.Done() {
		t.Errorf("%d pieces within %d: %d bytes, %v, want %d", len(pieces), limit, len(told), f.Done(), len(want))
	}
	finishes(t, f, api.OK)
}

func TestWindow(t *testing.T) { // P18.2, P18.8: a copy reaches as far back as the format lets it, over whatever pieces
	plain := []byte(anyBytes(194, 70000))
	s := &speller{}
	s.stored(false, string(plain[:65535]), "00000000")
	s.stored(false, string(plain[65535:]), "00000000")
	w := s.fixed(true)
	text := s.text()
	r := rand.New(rand.NewSource(194))
	var further strings.Builder
	for range 1500 {
		n, d := 3+r.Intn(256), []int{api.Window, api.Window - 1, 1, 24577, 1 + r.Intn(api.Window)}[r.Intn(5)]
		length, back := place(lengthBases(), n), place(distanceBases(), d)
		further.WriteString(w.lit[257+length] + row(n-lengthBases()[length], lengthFurther()[length]) + w.dist[back] + row(d-distanceBases()[back], distanceFurther()[back]))
		for range n {
			plain = append(plain, plain[len(plain)-d])
		}
	}
	data := bytesOf(text + further.String() + w.lit[256])
	for _, pieces := range [][][]byte{{data}, single(data), cut(r, data, 3), cut(r, data, 30000), {data[:32773], data[32773:65541], data[65541:]}} {
		tells(t, len(plain), pieces, string(plain))
	}
}

func TestTooFar(t *testing.T) { // P18.2: ErrInfFar by the text so far, not by what is kept of it
	w := fixedWords()
	farthest := w.lit[257] + w.dist[29] + row(8191, 13)
	for n, want := range map[int]api.Errno{api.Window - 1: api.ErrInfFar, api.Window: api.OK, api.Window + 1: api.OK} {
		s := &speller{}
		s.stored(false, anyBytes(195, n), "00000000")
		s.fixed(true)
		data := bytesOf(s.text() + farthest + w.lit[256])
		for _, at := range []int{0, 1000, n, len(data) - 5, len(data) - 1, len(data)} {
			f := begun(t, api.MaxCapacity)
			a, _ := f.Feed(data[:at])
			b, e := f.Feed(data[at:])
			told := string(a) + string(b)
			if e != want || f.Done() != (want == api.OK) || told != string(s.plain) && want != api.OK || want == api.OK && told != string(s.plain)+string(s.plain[n-api.Window:][:3]) {
				t.Errorf("the distance %d behind %d bytes: %d bytes, %d", api.Window, n, len(told), e)
			}
		}
	}
}

func TestTextsOfOthers(t *testing.T) { // P18.8, P18.9: what this program packs, and what another one does
	r := rand.New(rand.NewSource(196))
	sentence := strings.Repeat("a text that is packed and comes in pieces, ", 400)
	for _, plain := range []string{"", "a", sentence, anyBytes(7, 70000), strings.Repeat("\x00", 300000), sentence + anyBytes(8, 40000) + sentence} {
		for level := range api.MaxLevel + 1 {
			var another bytes.Buffer
			w, _ := flate.NewWriter(&another, level)
			w.Write([]byte(plain[:len(plain)/2]))
			w.Flush()
			w.Write([]byte(plain[len(plain)/2:]))
			w.Close()
			own, _ := deflate.Deflate([]byte(plain), level)
			for _, packed := range [][]byte{another.Bytes(), own} {
				pieces := cut(r, packed, 1+r.Intn(3000))
				tells(t, len(plain), pieces, plain)
				pipes(t, len(plain), plain, api.OK, pieces...)
			}
			if level%5 == 1 {
				tells(t, api.MaxCapacity, single(own), plain)
			}
		}
	}
}

func TestGreatestText(t *testing.T) { // P18.1, P18.2: as many plain bytes as a limit may say, and one more
	for n, want := range map[int]api.Errno{api.MaxCapacity: api.OK, api.MaxCapacity + 1: api.ErrInfLimit} {
		var packed bytes.Buffer
		w, _ := flate.NewWriter(&packed, 1)
		w.Write(make([]byte, n))
		w.Close()
		f := begun(t, api.MaxCapacity)
		told, e := 0, api.OK
		for _, piece := range cut(rand.New(rand.NewSource(197)), packed.Bytes(), 5000) {
			var out []byte
			out, e = f.Feed(piece)
			told += len(out)
		}
		if e != want || f.Done() != (want == api.OK) || want == api.OK && told != n || told > api.MaxCapacity || told < api.MaxCapacity-api.MaxMatch {
			t.Errorf("of %d bytes: %d, %d, %v", n, told, e, f.Done())
		}
	}
}

func TestMostPacked(t *testing.T) { // P18.2, P18.3: beyond MaxPacked bytes nothing is taken in, ahead of all else
	empty := bytes.Repeat([]byte{0, 0, 0, 0xFF, 0xFF}, api.MaxPacked/5+1)[:api.MaxPacked] // stored blocks without bytes
	used := api.MaxPacked/5*40 + 3
	f := begun(t, 0)
	feeds(t, f, empty[:7], "", api.OK, false, 43)
	feeds(t, f, empty, "", api.ErrArg, false, 43)
	feeds(t, f, empty[:api.MaxPacked-6], "", api.ErrArg, false, 43)
	feeds(t, f, empty[7:], "", api.OK, false, used)
	feeds(t, f, []byte{0}, "", api.ErrArg, false, used)
	feeds(t, f, nil, "", api.OK, false, used)
	finishes(t, f, api.ErrInfEnd)
	feeds(t, f, []byte{0}, "", api.ErrArg, false, used)
	feeds(t, f, nil, "", api.ErrInfEnd, false, used)
	finishes(t, f, api.ErrInfEnd)
}

func TestPiecesBehindAnError(t *testing.T) { // P18.2, P18.3: the piece that brings an error has come, none behind it
	long := make([]byte, api.MaxPacked)
	f := begun(t, 0)
	feeds(t, f, []byte{7, 7, 7}, "", api.ErrInfKind, false, 0)
	for range 2 {
		feeds(t, f, long[3:], "", api.ErrInfKind, false, 0)
		feeds(t, f, long[2:], "", api.ErrArg, false, 0)
		finishes(t, f, api.ErrInfKind)
	}
	f = begun(t, 0)
	feeds(t, f, []byte{3, 0, 0}, "", api.ErrOver, true, 10)
	feeds(t, f, long[3:], "", api.ErrOver, true, 10)
	feeds(t, f, long[2:], "", api.ErrArg, true, 10)
	finishes(t, f, api.ErrOver)
	f = begun(t, 0)
	feeds(t, f, []byte{3, 0}, "", api.OK, true, 10)
	feeds(t, f, long[1:], "", api.ErrArg, true, 10)
	finishes(t, f, api.OK)
	feeds(t, f, long[2:], "", api.ErrOver, true, 10)
	feeds(t, f, nil, "", api.ErrOver, true, 10)
	feeds(t, f, []byte{0}, "", api.ErrArg, true, 10)
}
