package tape_test

import (
	"bytes"
	"fmt"
	"math/rand"
	"reflect"
	"strings"
	"testing"

	"valise/api"
	"valise/tape"
)

const most = api.MaxCapacity

// zeros is so many bytes 0.
func zeros(n int) string { return strings.Repeat("\x00", n) }

// some is the beginning of bytes that may be many.
func some(data []byte) []byte { return data[:min(600, len(data))] }

// brief is the beginning of what is told of files.
func brief(files ...api.File) string { return string(some(fmt.Appendf(nil, "%+v", files))) }

// octal is a number's digits and a zero byte, n bytes in all.
func octal(v, n int) string { return fmt.Sprintf("%0*o\x00", n-1, v) }

// padded is a text with zero bytes behind it, n bytes in all.
func padded(text string, n int) string { return text + zeros(n-len(text)) }

// whole is data with zero bytes behind it, in whole records.
func whole(data string) string { return data + zeros((512-len(data)%512)%512) }

// head is a header's fields as they stand there, but for the sum.
type head struct {
	name, mode, owner, group, size, time, kind, link, magic, version, user, team, major, minor, prefix, room string
}

// ofA is the header of example 2, with all that may be left as it is: a file "a" of two bytes.
func ofA() head {
	return head{
		name: padded("a", 100), mode: octal(420, 8), owner: octal(0, 8), group: octal(0, 8), size: octal(2, 12), time: octal(1, 12),
		kind: "0", link: zeros(100), magic: "ustar\x00", version: "00", user: zeros(32), team: zeros(32),
		major: octal(0, 8), minor: octal(0, 8), prefix: zeros(155), room: zeros(12),
	}
}

// a is the file of example 2.
func a() api.File { return api.File{Name: "a", Mode: 420, Time: 1, Data: []byte("hi")} }

// summed is the header with its sum in that field as Put writes it.
func (h head) summed() string { return h.with(fmt.Sprintf("%06o\x00 ", h.sum())) }

// sum is the header's sum.
func (h head) sum() int {
	n := 0
	for _, b := range []byte(h.with("        ")) {
		n += int(b)
	}
	return n
}

// with is the header with that in the field sum.
func (h head) with(sum string) string {
	text := h.name + h.mode + h.owner + h.group + h.size + h.time + sum + h.kind + h.link + h.magic + h.version + h.user + h.team + h.major + h.minor + h.prefix + h.room
	if len(text) != 512 {
		panic(fmt.Sprintf("a header of %d bytes", len(text)))
	}
	return text
}

// taped is entries with the two records of zero bytes behind them.
func taped(entries ...string) string { return strings.Join(entries, "") + zeros(1024) }

// tapeOf is a header as the one of a tape, with the data "hi" behind it.
func tapeOf(h head) string { return taped(h.summed(), whole("hi")) }

// fieldOf is one of a header's fields: the 16 in their order.
func (h *head) fieldOf(i int) *string {
	return []*string{&h.name, &h.mode, &h.owner, &h.group, &h.size, &h.time, &h.kind, &h.link, &h.magic, &h.version, &h.user, &h.team, &h.major, &h.minor, &h.prefix, &h.room}[i]
}

// alike tells whether two lists of files are the same.
func alike(x, y []api.File) bool {
	if len(x) != len(y) {
		return false
	}
	for i := range x {
		if !bytes.Equal(x[i].Data, y[i].Data) {
			return false
		}
		f, g := x[i], y[i]
		f.Data, g.Data = nil, nil
		if !reflect.DeepEqual(f, g) {
			return false
		}
	}
	return true
}

// put asks Put for a tape, refuse for an error.
func put(t *testing.T, want string, files ...api.File) {
	t.Helper()
	if out, e := tape.Put(files); string(out) != want || e != api.OK {
		t.Fatalf("Put of %d files, %s: %q, %d, want %q", len(files), brief(files...), some(out), e, some([]byte(want)))
	}
}

func refuse(t *testing.T, want api.Errno, files ...api.File) {
	t.Helper()
	if out, e := tape.Put(files); out != nil || e != want {
		t.Fatalf("Put of %d files, %s: %d bytes, %d, want %d", len(files), brief(files...), len(out), e, want)
	}
}

// get asks Get for files, no for an error.
func get(t *testing.T, data string, want ...api.File) {
	t.Helper()
	if files, e := tape.Get([]byte(data)); !alike(files, want) || e != api.OK {
		t.Fatalf("Get(%q) = %s, %d, want %s", some([]byte(data)), brief(files...), e, brief(want...))
	}
}

func no(t *testing.T, data string, want api.Errno) {
	t.Helper()
	if files, e := tape.Get([]byte(data)); files != nil || e != want {
		t.Fatalf("Get of %d bytes, %q: %s, %d, want %d", len(data), some([]byte(data)), brief(files...), e, want)
	}
}

// both asks that a file is put so, and comes back.
func both(t *testing.T, want string, files ...api.File) {
	t.Helper()
	put(t, want, files...)
	get(t, want, files...)
}

// drawText draws a text without zero bytes.
func drawText(from *rand.Rand, n int) string {
	out := make([]byte, n)
	for i := range out {
		out[i] = "abc/d \xff\x01"[from.Intn(8)]
	}
	return string(out)
}

// drawName draws a name that fits, of a folder or not.
func drawName(from *rand.Rand, folder bool) string {
	for {
		name := drawText(from, 1+from.Intn([]int{3, 100, 258}[from.Intn(3)]))
		if from.Intn(3) == 0 {
			name = strings.ReplaceAll(name, "/", "x")
			at := from.Intn(len(name))
			name = name[:at] + "/" + name[at+1:]
		}
		if folder {
			name += "/"
		}
		if _, _, ok := plainCut(name); ok && strings.HasSuffix(name, "/") == folder {
			return name
		}
	}
}

// drawFile draws a sound file.
func drawFile(from *rand.Rand) api.File {
	number := func(bits int) int { return from.Intn(1 << from.Intn(bits+1)) }
	f := api.File{Kind: []int{0, 0, 0, 2, 5}[from.Intn(5)], Mode: number(21), Owner: number(21), Group: number(21), Time: number(33)}
	f.Name = drawName(from, f.Kind == 5)
	f.User, f.Team = drawText(from, from.Intn(32)), drawText(from, from.Intn(32))
	switch f.Kind {
	case 0:
		f.Data = []byte(drawText(from, from.Intn(2)*from.Intn(1200)))
	case 2:
		f.Link = drawText(from, 1+from.Intn(100))
	}
	return f
}

// drawFiles draws sound files.
func drawFiles(from *rand.Rand) []api.File {
	var files []api.File
	for range from.Intn(5) {
		files = append(files, drawFile(from))
	}
	return files
}
