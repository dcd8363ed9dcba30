package wrap_test

import (
	"bytes"
	"compress/flate"
	"strings"
	"testing"

	"valise/api"
	"valise/inflate"
)

// ahead is a stored block of so many bytes, at least 5, with its plain text; or nothing.
func ahead(n int) (packed, plain string) {
	if n == 0 {
		return "", ""
	}
	plain = strings.Repeat("f", n-5)
	return raw(plain, false), plain
}

// lengths has numbers of bytes about which a reader that takes a text in parts may cut it.
func lengths() []int {
	out := []int{0, 5, 6, 20, 65536}
	for _, n := range []int{32, 64, 128, 256, 512, 1024, 2048, 4096, 16384, 32768} {
		for by := -16; by <= 3; by++ {
			out = append(out, n+by)
		}
	}
	return out
}

// brokenTexts has packed texts that are broken in each way, at their beginning and far behind it.
func brokenTexts() []string {
	endings := []string{
		"\x07",                     // the kind 3
		"\x01\x02\x00\xfc\xff",     // a stored block whose two numbers don't fit one another
		"\x01\x40\x00\xbf\xff",     // one whose bytes are not there
		"\x01\xff\xff\x00\x00",     // one of very many bytes
		"\x1b\x03",                 // the symbol 286
		"\x03\x3e\x00",             // the symbol 30 of a distance
		"\x03\xde\xff\xff",         // a copy from 32768 bytes back
		"\x05",                     // a header that ends with its first number
		"\x05\xff\xff",             // one of too many lengths
		"\x05\x00\x00\x00\x00\x00", // one without a small code
	}
	var texts []string
	for _, n := range lengths() {
		packed, _ := ahead(n)
		for _, ending := range endings {
			texts = append(texts, packed+ending)
		}
	}
	return append(texts, "\x03\x02\x00") // a copy from 1 byte back, where there is none
}

// inflateError is the error of a packed text with what stands behind it.
func inflateError(t *testing.T, data string, limit int) api.Errno {
	t.Helper()
	_, _, e := inflate.Inflate([]byte(data), limit)
	if e == api.OK {
		t.Fatalf("% x is not broken", some([]byte(data)))
	}
	return e
}

func TestGetGzipBroken(t *testing.T) { // P23.6: the error is that of inflate.Inflate of all that stands behind the head
	met := map[api.Errno]int{}
	for _, text := range brokenTexts() {
		for _, behind := range []string{"", "\x00", string(bytes.Repeat([]byte{0xFF}, 20))} {
			e := inflateError(t, text+behind, 70000)
			met[e]++
			noGzip(t, plainHead+text+behind, 70000, e)
			noGzip(t, gzipped(fullHead(), "\x4b\x04\x00", "a")+plainHead+text+behind, 70001, e)
		}
	}
	for _, e := range []api.Errno{api.ErrHeadEnd, api.ErrHeadCounts, api.ErrHeadMeta, api.ErrInfEnd, api.ErrInfKind, api.ErrInfStored, api.ErrInfSymbol, api.ErrInfFar, api.ErrInfLimit} {
		if met[e] == 0 {
			t.Errorf("no text is broken by %d", e)
		}
	}
}

// anotherPacker is a text of dynamic blocks, and what it says.
func anotherPacker() (packed, plain string) {
	var b bytes.Buffer
	plain = filler(300, 3000)
	w, _ := flate.NewWriter(&b, flate.HuffmanOnly)
	w.Write([]byte(plain))
	w.Close()
	return b.String(), plain
}

func TestGetGzipLengths(t *testing.T) { // P23.6: packed texts of all lengths, and all their ends
	dynamic, says := anotherPacker()
	texts := map[string]string{"\x03\x00": "", "\x4b\x04\x00": "a", raw("end", true): "end", dynamic: says}
	for _, n := range lengths() {
		packed, first := ahead(n)
		for text, says := range texts {
			plain := first + says
			data := gzipped(plainHead, packed+text, plain)
			m := api.Member{Data: []byte(plain)}
			getGzip(t, data, len(plain), m)
			getGzip(t, data+data, 2*len(plain), m, m)
			if plain != "" {
				noGzip(t, data+data, 2*len(plain)-1, api.ErrInfLimit)
			}
			for cut := 1; cut <= 8; cut++ {
				noGzip(t, data[:len(data)-cut], len(plain), api.ErrWrapShort)
			}
			noGzip(t, data[:len(data)-9], len(plain), api.ErrInfEnd)
		}
	}
}

func TestGetGzipCutTexts(t *testing.T) { // P23.6: a packed text that ends at each place
	text, plain := anotherPacker()
	for n := range text {
		e := inflateError(t, text[:n], len(plain))
		noGzip(t, plainHead+text[:n], len(plain), e)
		noZlib(t, "\x78\x9c"+text[:n], len(plain), e)
	}
}
