package mend_test

import (
	"math/rand"
	"strings"
	"testing"

	"valise/api"
	"valise/deflate"
	"valise/journal"
	"valise/record"
)

// drawText is up to n drawn bytes, of which many are those of signatures.
func drawText(from *rand.Rand, n int) string {
	var text strings.Builder
	for range from.Intn(n + 1) {
		text.WriteByte("PK\x01\x02\x03\x04\x05\x06\x07\x08\x00ab"[from.Intn(13)])
	}
	return text.String()
}

// drawPart is a drawn part, now and then one that may not be. Its text may be another file.
func drawPart(from *rand.Rand, text string) part {
	name := []string{"a", "b", "c", "d", "e", "dir/", "dir/f", "\xc3\xa9", "PK", "longer name"}[from.Intn(10)]
	x := stored(name, text)
	if from.Intn(2) == 0 {
		b, _ := deflate.Deflate([]byte(text), from.Intn(10))
		x = packedAs(name, text, string(b))
	}
	c := &x.record
	c.Need, c.Flags = 10*(1+from.Intn(2)), []int{0, 0, 2, 4, 6, 2048, 2054}[from.Intn(7)]
	c.Made, c.Internal, c.External, c.Clock, c.Date = from.Intn(65536), from.Intn(65536), from.Intn(1<<32), from.Intn(65536), from.Intn(65536)
	if from.Intn(4) == 0 {
		c.Extra = []string{"\x55\x54\x01\x00\x07", "\x00\x00\x00\x00", "PK\x04\x00PK\x03\x04", "abc"}[from.Intn(4)]
	}
	c.Comment = drawText(from, from.Intn(8))
	if from.Intn(12) == 0 {
		spoilRecord(from, c)
	}
	x.local = c.Local
	if from.Intn(3) == 0 {
		x = late(x, from.Intn(2) == 0)
		if from.Intn(3) == 0 {
			x.local = x.record.Local
		}
	}
	x.gap = drawText(from, max(0, from.Intn(12)-7))
	switch from.Intn(40) {
	case 0:
		x.local.Sum++
	case 1:
		x.local.Extra += "abc"
	case 2:
		x.behind = ""
	case 3:
		x.data += "x"
	case 4:
		x.local.Name += "x"
	case 5:
		x.record.Clock ^= 1
	}
	return x
}

// spoilRecord makes a record say something that may not be, or that isn't so.
func spoilRecord(from *rand.Rand, c *api.Central) {
	pick := func(numbers ...int) int { return numbers[from.Intn(len(numbers))] }
	switch from.Intn(8) {
	case 0:
		c.Need = pick(0, 11, 45, 65535)
	case 1:
		c.Flags = pick(1, 16, 64, 65535)
	case 2:
		c.Method = pick(1, 9, 65535)
	case 3:
		c.Disk = pick(1, 65535)
	case 4:
		c.Size = pick(0, c.Size+1, most+1, 1<<32-1)
	case 5:
		c.Name = []string{"", "/", "..", "a//", "\xff", "a\\"}[from.Intn(6)]
	default:
		c.Sum ^= 1 << from.Intn(32)
	}
}

// drawArchive is a drawn archive, or nearly one: entries may lie within others, records may lead elsewhere, numbers may be wrong.
func drawArchive(from *rand.Rand) string {
	var parts, inner []part
	var within []int // of the inner ones: in which of the parts they lie
	for range from.Intn(5) {
		x := drawPart(from, drawText(from, 30))
		if from.Intn(6) == 0 {
			within = append(within, len(parts))
			inner = append(inner, x)
			x = stored("outer"+strings.Repeat("x", len(inner)), drawText(from, 3)+x.extent()+drawText(from, 3))
		}
		parts = append(parts, x)
	}
	n := len(parts)
	parts = append(parts, inner...)
	f := frame{gap: drawText(from, max(0, from.Intn(12)-7)), comment: drawText(from, max(0, from.Intn(30)-20)), order: from.Perm(len(parts))}
	places := make([]int, n)
	elsewhere := from.Intn(120)
	f.record = func(i int, c *api.Central) {
		if i < n {
			places[i] = c.At
		} else if outer := parts[within[i-n]]; true {
			c.At = places[within[i-n]] + strings.Index(outer.extent(), inner[i-n].extent())
		}
		if elsewhere < 8 && i == 1 {
			c.At = elsewhere * 15
		}
	}
	if from.Intn(8) == 0 {
		f.end = func(x *api.End) {
			for range 1 + from.Intn(2) {
				number := []*int{&x.Disk, &x.DirDisk, &x.Here, &x.Total, &x.DirAt, &x.DirAt, &x.DirSize}[from.Intn(7)]
				*number = []int{0, 1, min(*number+1, 65535), min(*number+47, 65535), max(0, *number-1), 65535}[from.Intn(6)]
			}
		}
	}
	return f.lay(parts...)
}

// spoilt is a file with a few changes: bytes that are others, taken out, put in, cut off.
func spoilt(from *rand.Rand, file string) string {
	for range max(0, from.Intn(6)-2) {
		if file == "" {
			return file
		}
		at := from.Intn(len(file))
		switch from.Intn(7) {
		case 0, 1, 2:
			file = with(file, at, byte(from.Intn(256)))
		case 3:
			file = with(file, at, file[at]^1<<from.Intn(8))
		case 4:
			file = file[:at] + file[min(len(file), at+1+from.Intn(20)):]
		case 5:
			begin := from.Intn(len(file))
			file = file[:at] + file[begin:min(len(file), begin+from.Intn(60))] + file[at:]
		default:
			file = file[:len(file)-from.Intn(min(60, len(file)))]
		}
	}
	return file
}

// drawFile is a drawn file: an archive, or something of one, and now and then a journal over it, or several.
func drawFile(from *rand.Rand) string {
	file := spoilt(from, drawArchive(from))
	for from.Intn(6) == 0 && len(file) < 4000 {
		switch from.Intn(8) {
		case 0, 1:
			file += zeros(1024 * (1 + from.Intn(2)))
		case 2:
			file += zeros(from.Intn(1200))
		case 3:
			file = spoilt(from, sealed(states[from.Intn(3)], file, len(file)))
		case 4:
			file = sealed(states[from.Intn(3)], file, from.Intn(len(file)+100))
		default:
			file = sealed(states[from.Intn(3)], file, len(file))
		}
	}
	return file
}

func TestModelAudit(t *testing.T) { // P26.1, P26.2
	from := rand.New(rand.NewSource(261))
	seen := map[api.Errno]int{}
	most, well := 0, 0
	for range 20000 {
		findings := audited(t, drawFile(from))
		for _, x := range findings {
			seen[x.Code]++
		}
		if len(findings) == 0 {
			well++
		}
		most = max(most, len(findings))
		if t.Failed() {
			return
		}
	}
	for _, e := range []api.Errno{130, 131, 132, 133, 134, 135, 136, 137, 141, 170} {
		if seen[e] < 300 {
			t.Errorf("the finding %d was drawn %d times", int(e), seen[e])
		}
	}
	if most < 8 || well < 1000 {
		t.Errorf("at most %d findings of a file, none of %d files", most, well)
	}
}

func TestModelMend(t *testing.T) { // P26.3 to P26.5
	from := rand.New(rand.NewSource(262))
	seen := map[api.Errno]int{}
	for range 6000 {
		file := drawFile(from)
		capacity, fuse := 1<<16, -1
		if from.Intn(3) == 0 {
			capacity = len(file) + from.Intn(2500)
		}
		if from.Intn(3) == 0 {
			fuse = from.Intn(16)
		}
		seen[mended(t, file, capacity, fuse)]++
		if t.Failed() {
			return
		}
	}
	for _, e := range []api.Errno{api.OK, api.ErrDiskPower, api.ErrFull} {
		if seen[e] < 300 {
			t.Errorf("the answer %d came %d times", int(e), seen[e])
		}
	}
}

func TestModelBytes(t *testing.T) { // P26.1, P26.2: each byte of a few archives as other ones
	x := altered(packed("b", "some text, some text"), func(c *api.Central) { c.Comment = "note" })
	for _, file := range []string{
		laid(stored("a", "hi"), x),
		frame{comment: "of all"}.lay(late(x, true), stored("a", "hi")),
		frame{order: []int{1, 0}}.lay(late(stored("a", "hi"), false), late(x, false)),
		sealed(api.StateArmed, known, 102)[:600],
	} {
		for i := range file {
			for _, b := range []byte{0, 1, file[i] + 1, file[i] - 1, file[i] ^ 8, 0xff} {
				audited(t, with(file, i, b))
			}
			audited(t, file[:i])
			audited(t, file[i:])
			if t.Failed() {
				return
			}
		}
	}
}

func TestModelJournals(t *testing.T) { // P26.1, P26.3 to P26.5: journals over journals, with the power failing ahead of each call
	x := laid(stored("a", "hi"), packed("b", "bye"))
	for _, content := range []string{"", "x", none, x, x[:67], with(x, 31, 'x'), x + zeros(1024)} {
		for _, first := range states {
			for _, second := range states {
				image := sealed(first, content, len(content))
				image = sealed(second, image, len(image))
				if v, l := journal.Look([]byte(image)); v.State != second || journal.Quiet(l) {
					t.Fatalf("Look = %v", v)
				}
				audited(t, image)
				for fuse := -1; fuse < 24; fuse++ {
					mended(t, image, 1<<16, fuse)
				}
				mended(t, image, len(image), -1)
				if t.Failed() {
					return
				}
			}
		}
	}
}

func FuzzAudit(f *testing.F) { // P26.1 to P26.5; go test runs the seeds alone
	f.Add([]byte(known))
	f.Add([]byte(frame{comment: "of all"}.lay(late(packed("a", "text"), true), stored("b", "hi"))))
	f.Add([]byte(sealed(api.StateArmed, known, 102)))
	b, _ := record.PutCentral(stored("a", "hi").record)
	f.Add(b)
	f.Fuzz(func(t *testing.T, file []byte) {
		audited(t, string(file))
		mended(t, string(file), 1<<16, -1)
	})
}
