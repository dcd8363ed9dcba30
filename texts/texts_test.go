package texts_test

import (
	"bytes"
	"hash/crc32"
	"math/rand"
	"strings"
	"testing"

	"valise/api"
	"valise/deflate"
	"valise/texts"
)

// stored is what a record tells of a text that is stored.
func stored(text string) api.Local {
	return api.Local{Sum: crc32.ChecksumIEEE([]byte(text)), Packed: len(text), Size: len(text)}
}

// packed is a packed text, and what a record tells of it.
func packed(text string) (string, api.Local) {
	b, _ := deflate.Deflate([]byte(text), 6)
	l := stored(text)
	l.Method, l.Packed = api.MethodDeflate, len(b)
	return string(b), l
}

func TestHoldStored(t *testing.T) { // every length and place around where sums are kept
	file := make([]byte, 400)
	rand.New(rand.NewSource(1)).Read(file)
	all := texts.Of(file)
	for from := 0; from <= len(file); from += 3 {
		for to := from; to <= len(file); to++ {
			l := stored(string(file[from:to]))
			if !all.Hold(l, from) {
				t.Fatalf("the bytes %d to %d don't hold", from, to)
			}
			l.Sum ^= 1
			if all.Hold(l, from) {
				t.Fatalf("the bytes %d to %d hold with another sum", from, to)
			}
		}
	}
	l := stored(string(file[300:]))
	l.Size++
	if all.Hold(l, 300) {
		t.Error("stored bytes hold with another size")
	}
	for _, more := range []int{1, 100, api.MaxField} {
		l := stored("")
		l.Packed, l.Size = 100+more, 100+more
		if all.Hold(l, 300) {
			t.Errorf("%d bytes more than there are hold", more)
		}
	}
}

func TestHoldPacked(t *testing.T) { // packed texts of all lengths, also longer than the first tries
	r := rand.New(rand.NewSource(2))
	for _, n := range []int{0, 1, 100, 4000, 4096, 5000, 40000, 70000} {
		plain := make([]byte, n)
		r.Read(plain)
		data, l := packed(string(plain))
		file := "...." + data + "more"
		all := texts.Of([]byte(file))
		if !all.Hold(l, 4) {
			t.Errorf("%d bytes don't hold", n)
		}
		if got, ok := all.Measured(api.Local{Method: api.MethodDeflate, Name: "n", Sum: 9, Packed: 9, Size: 9}, 4); !ok || got != (api.Local{Method: api.MethodDeflate, Name: "n", Sum: l.Sum, Packed: l.Packed, Size: n}) {
			t.Errorf("%d bytes are measured as %v, %v", n, got, ok)
		}
		for what, change := range map[string]func(l *api.Local){
			"sum":  func(l *api.Local) { l.Sum++ },
			"size": func(l *api.Local) { l.Size++ },
			"less": func(l *api.Local) { l.Size-- },
			"rest": func(l *api.Local) { l.Packed++ },
			"cut":  func(l *api.Local) { l.Packed-- },
			"wide": func(l *api.Local) { l.Size = api.MaxCapacity + 1 },
			"far":  func(l *api.Local) { l.Packed = len(file) - 3 },
		} {
			x := l
			change(&x)
			if all.Hold(x, 4) {
				t.Errorf("%s: %d bytes hold", what, n)
			}
		}
	}
}

func TestMeasuredNone(t *testing.T) {
	data, _ := packed(strings.Repeat("some text ", 1000))
	all := texts.Of([]byte(data))
	if l, ok := all.Measured(api.Local{Name: "stored"}, 0); ok || l != (api.Local{}) {
		t.Errorf("stored bytes are measured as %v", l)
	}
	for _, cut := range []int{0, 1, len(data) - 1} {
		if l, ok := texts.Of([]byte(data[:cut])).Measured(api.Local{Method: api.MethodDeflate}, 0); ok || l != (api.Local{}) {
			t.Errorf("%d bytes of a packed text are measured as %v", cut, l)
		}
	}
	if _, ok := texts.Of(bytes.Repeat([]byte{7}, 9000)).Measured(api.Local{Method: api.MethodDeflate}, 0); ok {
		t.Error("what is no packed text is measured")
	}
}
