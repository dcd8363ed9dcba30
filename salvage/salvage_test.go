package salvage_test

import (
	"bytes"
	"fmt"
	"slices"
	"strings"
	"testing"

	"valise/api"
	"valise/deflate"
	"valise/field"
	"valise/record"
	"valise/salvage"
)

// none is the archive without entries.
const none = "PK\x05\x06\x00\x00\x00\x00\x00\x00\x00\x00\x00\x00\x00\x00\x00\x00\x00\x00\x00\x00"

// stored is an item of method 0.
func stored(name, data string) api.Item {
	l := api.Local{Need: 10, Date: 33, Sum: field.Sum([]byte(data)), Packed: len(data), Size: len(data), Name: name}
	return api.Item{Central: api.Central{Local: l, Made: 20}, Bytes: []byte(data)}
}

// packedAs is an item of method 8 with these packed bytes, whatever they are.
func packedAs(name, plain, packed string) api.Item {
	x := stored(name, plain)
	x.Need, x.Method, x.Packed, x.Bytes = 20, api.MethodDeflate, len(packed), []byte(packed)
	return x
}

// packed is an item of method 8.
func packed(name, plain string) api.Item {
	b, _ := deflate.Deflate([]byte(plain), 6)
	return packedAs(name, plain, string(b))
}

// laid is an item's local header and its bytes.
func laid(x api.Item) string {
	b, e := record.PutLocal(x.Local)
	if e != api.OK {
		panic(e)
	}
	return string(b) + string(x.Bytes)
}

// early is an item with a descriptor whose local header says all the same.
func early(x api.Item, signed bool) string {
	x.Flags |= 8
	return laid(x) + described(x, signed)
}

// late is an item with a descriptor whose local header says neither the sum nor the sizes.
func late(x api.Item, signed bool) string {
	y := x
	y.Flags |= 8
	y.Sum, y.Packed, y.Size = 0, 0, 0
	return laid(y) + described(x, signed)
}

func described(x api.Item, signed bool) string {
	b, _ := record.PutDescriptor(x.Local, signed)
	return string(b)
}

// entry is what is told of an item that stands at a place, in so many bytes with its descriptor.
func entry(x api.Item, at, n int) api.Entry {
	data := at + 30 + len(x.Name) + len(x.Extra)
	return api.Entry{Central: api.Central{Local: x.Local, Made: 20, At: at}, LocalExtra: x.Extra, From: at, Data: data, To: data + x.Packed + n}
}

// marked is an item with the flag that an entry with a descriptor has.
func marked(x api.Item) api.Item {
	x.Flags |= 8
	return x
}

// finds asks for all that Scan tells.
func finds(t *testing.T, file string, want ...api.Entry) {
	t.Helper()
	got, e := salvage.Scan([]byte(file))
	if e != api.OK || !slices.Equal(got, want) {
		t.Errorf("Scan(%d bytes, %.100q) = %s, %d, want %s", len(file), file, brief(got), e, brief(want))
	}
}

// rebuilds asks for what Rebuild tells.
func rebuilds(t *testing.T, file, want string, e api.Errno) {
	t.Helper()
	got, f := salvage.Rebuild([]byte(file))
	if string(got) != want || f != e || f != api.OK && got != nil {
		t.Errorf("Rebuild(%d bytes, %.100q) = %.300q, %d, want %.300q, %d", len(file), file, got, f, want, e)
	}
}

// brief is a list of entries in so many words as can be read.
func brief(entries []api.Entry) string {
	var s strings.Builder
	fmt.Fprintf(&s, "%d entries", len(entries))
	for _, x := range entries[:min(4, len(entries))] {
		fmt.Fprintf(&s, " {%.20q at %d, %d to %d, flags %d, %08x %d %d}", x.Name, x.From, x.Data, x.To, x.Flags, x.Sum, x.Packed, x.Size)
	}
	return s.String()
}

// namesOf is the entries' names, each with a blank behind it.
func namesOf(entries []api.Entry) string {
	var s strings.Builder
	for _, x := range entries {
		s.WriteString(x.Name + " ")
	}
	return s.String()
}

// with is a text with the byte at a place another one.
func with(text string, at int, b byte) string {
	other := []byte(text)
	other[at] = b
	return string(other)
}

// filled is n bytes that no archive begins with.
func filled(n int) string { return string(bytes.Repeat([]byte{'.'}, n)) }
