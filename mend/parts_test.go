package mend_test

import (
	"fmt"
	"hash/crc32"
	"slices"
	"strings"
	"testing"

	"valise/api"
	"valise/deflate"
	"valise/disk"
	"valise/journal"
	"valise/layout"
	"valise/mend"
	"valise/plan"
	"valise/record"
)

const (
	most = api.MaxCapacity
	none = "PK\x05\x06\x00\x00\x00\x00\x00\x00\x00\x00\x00\x00\x00\x00\x00\x00\x00\x00\x00\x00" // the archive without entries

	// known is the archive of chapter 13's example 2, byte for byte, with the sum of "hi" in its place.
	known = "PK\x03\x04\x0a\x00\x00\x00\x00\x00\x00\x00\x21\x00\xac\x2a\x93\xd8\x02\x00\x00\x00\x02\x00\x00\x00\x01\x00\x00\x00a" + "hi" +
		"PK\x01\x02\x14\x00\x0a\x00\x00\x00\x00\x00\x00\x00\x21\x00\xac\x2a\x93\xd8\x02\x00\x00\x00\x02\x00\x00\x00\x01\x00\x00\x00\x00\x00\x00\x00\x00\x00\x00\x00\x00\x00\x00\x00\x00\x00a" +
		"PK\x05\x06\x00\x00\x00\x00\x01\x00\x01\x00\x2f\x00\x00\x00\x21\x00\x00\x00\x00\x00"
)

// zeros is so many bytes 0.
func zeros(n int) string { return strings.Repeat("\x00", n) }

// with is a text with the byte at a place another one.
func with(text string, at int, b byte) string { return text[:at] + string([]byte{b}) + text[at+1:] }

// part is an entry as a test lays it down, by itself: what the directory says, what the local header says, the bytes, and what stands ahead and behind.
type part struct {
	record api.Central // At is told by the place
	local  api.Local
	data   string
	behind string // the descriptor, or something in its place
	gap    string // ahead of the local header
}

// stored is a part that is right, of method 0.
func stored(name, data string) part {
	l := api.Local{Need: 10, Date: 33, Sum: crc32.ChecksumIEEE([]byte(data)), Packed: len(data), Size: len(data), Name: name}
	return part{record: api.Central{Local: l, Made: 20}, local: l, data: data}
}

// packedAs is a part of method 8 with these packed bytes, whatever they are.
func packedAs(name, plain, packed string) part {
	x := stored(name, plain)
	x.record.Need, x.record.Method, x.record.Packed = 20, api.MethodDeflate, len(packed)
	x.local, x.data = x.record.Local, packed
	return x
}

// packed is a part that is right, of method 8.
func packed(name, plain string) part {
	b, _ := deflate.Deflate([]byte(plain), 6)
	return packedAs(name, plain, string(b))
}

// late is a part that is told late.
func late(x part, signed bool) part {
	x.record.Flags |= 8
	x.local = x.record.Local
	x.local.Sum, x.local.Packed, x.local.Size = 0, 0, 0
	b, _ := record.PutDescriptor(x.record.Local, signed)
	x.behind = string(b)
	return x
}

// extent is the part's local header, its bytes, and what stands behind them.
func (x part) extent() string {
	b, e := record.PutLocal(x.local)
	if e != api.OK {
		panic(e)
	}
	return string(b) + x.data + x.behind
}

// altered is a part that says something else, in both its records.
func altered(x part, change func(c *api.Central)) part {
	change(&x.record)
	x.local = x.record.Local
	return x
}

// told is a part whose directory's record alone says something else.
func told(x part, change func(c *api.Central)) part {
	change(&x.record)
	return x
}

// frame is what stands around the parts: bytes behind the last one, the comment, the directory's order (as the parts stand, if nil), and a last change of the end record and of the records.
type frame struct {
	gap     string
	comment string
	order   []int
	end     func(x *api.End)
	record  func(i int, c *api.Central)
}

// lay lays parts down, by layer 12 alone.
func (f frame) lay(parts ...part) string {
	var file strings.Builder
	records := make([]api.Central, len(parts))
	for i, x := range parts {
		file.WriteString(x.gap)
		records[i] = x.record
		records[i].At = file.Len()
		if f.record != nil {
			f.record(i, &records[i])
		}
		file.WriteString(x.extent())
	}
	file.WriteString(f.gap)
	at := file.Len()
	for i := range records {
		if f.order != nil {
			i = f.order[i]
		}
		b, e := record.PutCentral(records[i])
		if e != api.OK {
			panic(e)
		}
		file.Write(b)
	}
	end := api.End{Here: len(parts), Total: len(parts), DirSize: file.Len() - at, DirAt: at, Comment: f.comment}
	if f.end != nil {
		f.end(&end)
	}
	b, e := record.PutEnd(end)
	if e != api.OK {
		panic(e)
	}
	return file.String() + string(b)
}

// laid is the file of parts one behind the other.
func laid(parts ...part) string { return frame{}.lay(parts...) }

// sealed is the file of a journal over a content, whatever that is: a seal of this state, which says that the new content has so many bytes, and saved bytes of the old one's first byte.
func sealed(state int, content string, size int) string {
	body := ""
	var cover []api.Write
	if content != "" {
		body = "\x00\x00\x00\x00\x01\x00\x00\x00" + content[:1]
		cover = []api.Write{{At: 0, Data: []byte("x")}}
	}
	s := api.Seal{State: state, Seq: 77, Old: len(content), New: size, Count: len(cover), Length: len(body), Sum: crc32.ChecksumIEEE([]byte(body))}
	sector, e := journal.EncodeSeal(s)
	if e != api.OK {
		panic(e)
	}
	n, e := journal.Need(len(content), max(size, 1), cover) // the write must end within the new size; one byte more or less in it makes no other frame here
	if e != api.OK {
		panic(e)
	}
	image := []byte(content + zeros(n-len(content)))
	copy(image[(max(len(content), size)+511)/512*512:], body)
	copy(image[n/512*512-512:], sector)
	return string(image)
}

// states are those of a seal.
var states = []int{api.StateClaimed, api.StateArmed, api.StateDone}

func TestSealed(t *testing.T) { // what the tests here lay down is what Look takes for a journal
	for _, state := range states {
		for _, content := range []string{"", none, known, strings.Repeat("x", 700)} {
			image := sealed(state, content, len(content))
			if v, l := journal.Look([]byte(image)); v != (api.Verdict{State: state, Seq: 77, Size: len(content)}) || string(l) != content {
				t.Errorf("state %d of %d bytes: %v", state, len(content), v)
			}
		}
	}
}

// at is a finding of an entry.
func at(code api.Errno, place int, name string) api.Finding {
	return api.Finding{Code: code, At: place, Name: name}
}

// brief is a list of findings in so many words as can be read.
func brief(list []api.Finding) string {
	var s strings.Builder
	fmt.Fprintf(&s, "%d findings", len(list))
	for _, x := range list[:min(8, len(list))] {
		fmt.Fprintf(&s, " {%d %d %.20q}", int(x.Code), x.At, x.Name)
	}
	return s.String()
}

// audits asks for all that Audit tells.
func audits(t *testing.T, file string, want ...api.Finding) {
	t.Helper()
	if got, e := mend.Audit([]byte(file)); e != api.OK || !slices.Equal(got, want) {
		t.Errorf("Audit(%d bytes, %.100q) = %s, %d, want %s", len(file), file, brief(got), int(e), brief(want))
	}
}

// holding is a disk whose file holds a text.
func holding(t *testing.T, image string, capacity int) *disk.Disk {
	t.Helper()
	d, e := disk.New([]byte(image), capacity)
	if e != api.OK {
		t.Fatalf("New of %d bytes, capacity %d: %d", len(image), capacity, int(e))
	}
	return d
}

// strokes is how many changing calls the update from one content to another makes.
func strokes(old, next string) int {
	writes := plan.Diff([]byte(old), []byte(next))
	n := 2 + 1 + 2 + len(writes) + 1 + 2 + 2
	if len(writes) > 0 && writes[0].At < len(old) { // then bytes are saved
		n++
	}
	return n
}

// mends asks Mend for so many entries and for the bytes that it leaves, all durable, and for so many changing calls.
func mends(t *testing.T, image string, capacity, entries int, left string, calls int) {
	t.Helper()
	d := holding(t, image, capacity)
	n, e := mend.Mend(d)
	if n != entries || e != api.OK || string(d.Image()) != left || d.Calls() != calls {
		t.Errorf("Mend of %d bytes, %.60q = %d, %d: %d bytes, %.200q, %d calls, want %d, %d bytes, %.200q, %d calls", len(image), image, n, int(e), d.Size(), d.Image(), d.Calls(), entries, len(left), left, calls)
		return
	}
	lost, _ := d.Crash(api.Choice{})
	if string(lost.Image()) != left {
		t.Errorf("Mend of %.60q: a crash leaves %d bytes", image, lost.Size())
	}
	if n, e := mend.Mend(lost); n != entries || e != api.OK || lost.Calls() != 0 {
		t.Errorf("Mend again = %d, %d, %d calls, want %d", n, int(e), lost.Calls(), entries)
	}
}

// refuses asks Mend for an error, and for a file that stays as it is.
func refuses(t *testing.T, image string, capacity int, want api.Errno) {
	t.Helper()
	d := holding(t, image, capacity)
	if n, e := mend.Mend(d); n != 0 || e != want || string(d.Image()) != image || d.Calls() != 0 {
		t.Errorf("Mend of %d bytes, %.60q = %d, %d, %d calls, want %d", len(image), image, n, int(e), d.Calls(), int(want))
	}
}

// rendered is the archive of parts as Render lays it down.
func rendered(t *testing.T, parts ...part) string {
	t.Helper()
	var items []api.Item
	for _, x := range parts {
		items = append(items, api.Item{Central: x.record, Bytes: []byte(x.data)})
	}
	file, e := layout.Render(items, "")
	if e != api.OK {
		t.Fatalf("Render: %d", int(e))
	}
	return string(file)
}
