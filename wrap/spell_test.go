package wrap_test

import (
	"bytes"
	"encoding/hex"
	"math/rand"
	"reflect"
	"strings"
	"testing"

	"valise/api"
	"valise/deflate"
	"valise/field"
	"valise/wrap"
)

// hexed is the bytes that a text in hexadecimal says.
func hexed(text string) string {
	data, err := hex.DecodeString(strings.ReplaceAll(text, " ", ""))
	if err != nil {
		panic(err)
	}
	return string(data)
}

// some is the beginning of bytes that may be many.
func some(data []byte) []byte { return data[:min(60, len(data))] }

// number is a number's n bytes, the lowest first.
func number(v, n int) string {
	text := ""
	for range n {
		text += string([]byte{byte(v)})
		v >>= 8
	}
	return text
}

// backward is a text's bytes in the other order.
func backward(text string) string {
	out := ""
	for i := range len(text) {
		out = text[i:i+1] + out
	}
	return out
}

// packed is a text as Deflate packs it.
func packed(plain string, level int) string {
	out, e := deflate.Deflate([]byte(plain), level)
	if e != api.OK {
		panic(e)
	}
	return string(out)
}

// raw is a stored block.
func raw(text string, last bool) string {
	first := "\x00"
	if last {
		first = "\x01"
	}
	return first + number(len(text), 2) + number(65535-len(text), 2) + text
}

// zlibbed is a zlib wrapper of packed bytes that say the plain text.
func zlibbed(head, packed, plain string) string {
	return head + packed + backward(number(int(plainAdler(plain)), 4))
}

// tail is what stands behind a packed text in a gzip wrapper.
func tail(plain string) string {
	return number(int(field.Sum([]byte(plain))), 4) + number(len(plain), 4)
}

// plainHead is a gzip head in which nothing stands.
const plainHead = "\x1f\x8b\x08\x00\x00\x00\x00\x00\x00\x00"

// gzipped is a gzip wrapper of packed bytes that say the plain text.
func gzipped(head, packed, plain string) string { return head + packed + tail(plain) }

// summed is a head with its sum behind it.
func summed(head string) string { return head + number(int(field.Sum([]byte(head))), 2) }

// full is a member whose head has all that a head can have.
func full(data string) api.Member {
	return api.Member{Text: true, Checked: true, Time: 0x81020304, Hint: 5, System: 255, Extra: "\x00x\x00", Name: "the name", Note: "a note", Data: []byte(data)}
}

// fullHead is that member's head.
func fullHead() string {
	return summed("\x1f\x8b\x08\x1f\x04\x03\x02\x81\x05\xff\x03\x00\x00x\x00the name\x00a note\x00")
}

// filler is a drawn text of few letters.
func filler(seed int64, n int) string {
	r := rand.New(rand.NewSource(seed))
	out := make([]byte, n)
	for i := range out {
		out[i] = "abcdefg\x00"[r.Intn(8)]
	}
	return string(out)
}

// putZlib and putGzip ask for bytes, refuseZlib and refuseGzip for an error.
func putZlib(t *testing.T, data string, level int, want string) {
	t.Helper()
	if out, e := wrap.PutZlib([]byte(data), level); string(out) != want || e != api.OK {
		t.Errorf("PutZlib(%.40q, %d) = % x, %d, want % x", data, level, some(out), e, some([]byte(want)))
	}
}

func refuseZlib(t *testing.T, data []byte, level int, want api.Errno) {
	t.Helper()
	if out, e := wrap.PutZlib(data, level); out != nil || e != want {
		t.Errorf("PutZlib(%d bytes, %d) = % x, %d, want %d", len(data), level, some(out), e, want)
	}
}

func putGzip(t *testing.T, want string, level int, members ...api.Member) {
	t.Helper()
	if out, e := wrap.PutGzip(level, members...); string(out) != want || e != api.OK {
		t.Errorf("PutGzip(%d, %d members) = % x, %d, want % x", level, len(members), some(out), e, some([]byte(want)))
	}
}

func refuseGzip(t *testing.T, want api.Errno, level int, members ...api.Member) {
	t.Helper()
	if out, e := wrap.PutGzip(level, members...); out != nil || e != want {
		t.Errorf("PutGzip(%d, %d members) = % x, %d, want %d", level, len(members), some(out), e, want)
	}
}

// getZlib asks for a plain text, noZlib for an error.
func getZlib(t *testing.T, data string, limit int, want string) {
	t.Helper()
	if out, e := wrap.GetZlib([]byte(data), limit); string(out) != want || e != api.OK {
		t.Errorf("GetZlib(% x, %d) = %q, %d, want %q", some([]byte(data)), limit, some(out), e, some([]byte(want)))
	}
}

func noZlib(t *testing.T, data string, limit int, want api.Errno) {
	t.Helper()
	if out, e := wrap.GetZlib([]byte(data), limit); out != nil || e != want {
		t.Errorf("GetZlib(%d bytes, % x, %d) = %q, %d, want %d", len(data), some([]byte(data)), limit, some(out), e, want)
	}
}

// getGzip asks for members, noGzip for an error.
func getGzip(t *testing.T, data string, limit int, want ...api.Member) {
	t.Helper()
	if got, e := wrap.GetGzip([]byte(data), limit); !alike(got, want) || e != api.OK {
		t.Errorf("GetGzip(% x, %d) = %d members, %d, %.300v, want %d members, %.300v", some([]byte(data)), limit, len(got), e, got, len(want), want)
	}
}

func noGzip(t *testing.T, data string, limit int, want api.Errno) {
	t.Helper()
	if got, e := wrap.GetGzip([]byte(data), limit); got != nil || e != want {
		t.Errorf("GetGzip(%d bytes, % x, %d) = %d members, %d, want %d", len(data), some([]byte(data)), limit, len(got), e, want)
	}
}

// alike tells whether members are the same, in all that they have.
func alike(a, b []api.Member) bool {
	if len(a) != len(b) {
		return false
	}
	for i, x := range a {
		y := b[i]
		same := bytes.Equal(x.Data, y.Data)
		x.Data, y.Data = nil, nil
		if !same || !reflect.DeepEqual(x, y) {
			return false
		}
	}
	return true
}
